package merge

import "sealpress/api"

// Copy is a message of its own.
func Copy(m *api.Msg) *api.Msg {
	c := copier{around: map[*api.Msg]*api.Msg{}}
	return c.message(m)
}

// copier knows the copies of those messages in which what it copies stands: one that is made by hand may stand in itself, and so does its copy then.
type copier struct {
	around map[*api.Msg]*api.Msg
}

func (c copier) message(m *api.Msg) *api.Msg {
	if m == nil {
		return nil
	}
	if own := c.around[m]; own != nil {
		return own
	}
	own := &api.Msg{Fields: make([]api.Part, len(m.Fields)), Rest: m.Rest}
	c.around[m] = own
	for i, p := range m.Fields {
		own.Fields[i] = api.Part{Number: p.Number, Values: c.values(p.Values)}
	}
	// One that stands elsewhere too is copied there again: no two messages of a copy are one.
	delete(c.around, m)
	return own
}

func (c copier) values(l []api.Value) []api.Value {
	own := make([]api.Value, len(l))
	for i, v := range l {
		own[i] = api.Value{Num: v.Num, Text: v.Text, Sub: c.message(v.Sub)}
	}
	return own
}

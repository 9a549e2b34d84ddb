package merge_test

import (
	"testing"

	"sealpress/api"
	"sealpress/merge"
	"sealpress/plain"
)

// samples are messages by hand: Copy asks of no type, nor whether they may be.
func samples() []*api.Msg {
	one := msg(number(1, 1))
	shared := []api.Value{{Num: 1}, {Sub: one}, {Text: "x"}}
	longer := append(make([]api.Part, 0, 8), number(1, 1), sub(2, one), number(3, 3))
	return []*api.Msg{
		{},
		{Fields: []api.Part{}},
		{Rest: "\x00\xff\x08"},
		one,
		msg(number(1, 1<<63), number(2, 0)),
		msg(number(9, 1), number(2, 1), number(2, 1), number(-3, 1)),
		msg(api.Part{Number: 1}, api.Part{Number: 2, Values: []api.Value{}}, api.Part{}),
		msg(api.Part{Number: 1, Values: []api.Value{{}, {Num: 1, Text: "a\xff", Sub: &api.Msg{Rest: "r"}}, {Sub: &api.Msg{}}, {Text: "b"}}}),
		msg(sub(1, msg(sub(2, msg(sub(3, &api.Msg{Rest: "in"})))))),
		// One message, or one list, in several places; more behind a list's length.
		msg(sub(1, one), sub(2, one), api.Part{Number: 3, Values: []api.Value{{Sub: one}, {Sub: one}}}),
		msg(api.Part{Number: 1, Values: shared}, api.Part{Number: 2, Values: shared}, api.Part{Number: 3, Values: shared[:1]}),
		{Fields: longer[:2]},
		msg(sub(1, &api.Msg{Fields: longer}), sub(2, &api.Msg{Fields: longer[:1]})),
	}
}

// 6.1: a message of its own, the same.
func TestCopy(t *testing.T) {
	if m := merge.Copy(nil); m != nil {
		t.Errorf("Copy of nil: %s", told(m))
	}
	for _, m := range samples() {
		before := told(m)
		c := merge.Copy(m)
		if !plain.Same(c, m) || told(m) != before {
			t.Errorf("Copy of %s: %s; it is %s then", before, told(c), told(m))
		}
		isFresh(t, c, m)
		spoil(c)
		if told(m) != before {
			t.Errorf("%s is %s, as its copy was written into", before, told(m))
		}
	}
}

// spoil writes into all that a message has.
func spoil(m *api.Msg) {
	for i, p := range m.Fields {
		for k, v := range p.Values {
			if v.Sub != nil {
				spoil(v.Sub)
			}
			p.Values[k] = api.Value{Num: 77, Text: "spoilt"}
		}
		m.Fields[i].Number = 77
	}
	m.Rest = "spoilt"
}

// 'Limits': 2^16 parts nested in one another.
func TestCopyDeep(t *testing.T) {
	m := &api.Msg{Rest: "in"}
	for range 1 << 16 {
		m = msg(sub(1, m))
	}
	c := merge.Copy(m)
	for range 1 << 16 {
		if c == m || len(c.Fields) != 1 || len(c.Fields[0].Values) != 1 {
			t.Fatalf("%d fields", len(c.Fields))
		}
		c, m = c.Fields[0].Values[0].Sub, m.Fields[0].Values[0].Sub
	}
	if c == m || c.Rest != "in" || len(c.Fields) != 0 {
		t.Errorf("in it: %s", told(c))
	}
}

// P1: a message that stands in itself is copied so, and that ends.
func TestCopyRound(t *testing.T) {
	a, b := &api.Msg{Rest: "a"}, &api.Msg{Rest: "b"}
	a.Fields = []api.Part{{Number: 1, Values: []api.Value{{Sub: a}, {Sub: b}}}, sub(2, b)}
	b.Fields = []api.Part{sub(3, a), sub(4, b)}
	c := merge.Copy(a)
	if told(c) != told(a) {
		t.Errorf("Copy of %s: %s", told(a), told(c))
	}
	first, second := c.Fields[0].Values[1].Sub, c.Fields[1].Values[0].Sub
	if c == a || first == b || second == b || first == second {
		t.Error("a copy's messages are not its own")
	}
	if c.Fields[0].Values[0].Sub != c || first.Fields[0].Values[0].Sub != c || first.Fields[1].Values[0].Sub != first || second.Fields[1].Values[0].Sub != second {
		t.Error("what stands in itself does not so in the copy")
	}
}

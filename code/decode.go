package code

import (
	"slices"

	"sealpress/api"
	"sealpress/check"
	"sealpress/keys"
	"sealpress/wire"
)

// Decode reads a message of a type. ErrMissing: there is no such type; ErrLimit: more than MaxBytes bytes, or messages in messages deeper than MaxDepth; ErrForm: it is none.
func Decode(t *check.Types, name string, b []byte) (*api.Msg, error) {
	fields, err := fieldsOf(t, name)
	if err != nil {
		return nil, err
	}
	if len(b) > api.MaxBytes {
		return nil, api.ErrLimit
	}
	r := newReader(t, fields, 1)
	if err := r.take(b); err != nil {
		return nil, err
	}
	return r.message(), nil
}

// reader has what was read of one message so far. Its errors do not hang on that: so bytes that come later are taken as if all had come at once.
type reader struct {
	types  *check.Types
	fields []check.Field
	deep   int
	read   map[int]*held // by the fields' numbers
	rest   []byte
}

// held is what was read of a field that is there: its values, or, of a message that is not Many, who reads all bytes that come of it.
type held struct {
	values []api.Value
	sub    *reader
}

func newReader(t *check.Types, fields []check.Field, deep int) *reader {
	return &reader{types: t, fields: fields, deep: deep, read: map[int]*held{}}
}

// inner is who read these bytes of a message, or of what stands in a map, that is of a field.
func (r *reader) inner(f check.Field, b []byte) (*reader, error) {
	in := newReader(r.types, fieldsIn(r.types, f), r.deep+1)
	return in, in.take(b)
}

// take reads bytes behind those that were read. ErrLimit, ErrForm.
func (r *reader) take(b []byte) error {
	if r.deep > api.MaxDepth {
		return api.ErrLimit
	}
	for len(b) > 0 {
		p, err := wire.Next(b)
		if err != nil {
			return err
		}
		f, ok := find(r.fields, p.Number)
		if ok && fits(f, p.Form) {
			err = r.takePiece(f, p)
		} else {
			r.rest = append(r.rest, b[:p.Long]...)
		}
		if err != nil {
			return err
		}
		b = b[p.Long:]
	}
	return nil
}

// takePiece reads a piece that fits a field.
func (r *reader) takePiece(f check.Field, p wire.Piece) error {
	r.choose(f)
	switch {
	case isMap(f):
		return r.takeEntry(f, p.Bytes)
	case f.Kind == api.Message && f.Many:
		return r.takeOneMore(f, p.Bytes)
	case f.Kind == api.Message:
		return r.takeMessage(f, p.Bytes)
	case f.Kind == api.String || f.Kind == api.Bytes:
		return r.takeText(f, string(p.Bytes))
	case p.Form == wire.Length:
		return r.takePacked(f, p.Bytes)
	}
	r.set(f, api.Value{Num: numberOf(f.Kind, p.Num)})
	return nil
}

// choose leaves out what was read of others of a field's choice.
func (r *reader) choose(f check.Field) {
	if f.Choice == "" {
		return
	}
	for _, other := range r.fields {
		if other.Choice == f.Choice && other.Number != f.Number {
			delete(r.read, other.Number)
		}
	}
}

// of is where what is read of a field is held.
func (r *reader) of(f check.Field) *held {
	h := r.read[f.Number]
	if h == nil {
		h = &held{}
		r.read[f.Number] = h
	}
	return h
}

// set takes a number or a text: one more, or the one.
func (r *reader) set(f check.Field, v api.Value) {
	switch {
	case f.Many:
		h := r.of(f)
		h.values = append(h.values, v)
	case f.Choice == "" && v == api.Value{}:
		delete(r.read, f.Number)
	default:
		r.read[f.Number] = &held{values: []api.Value{v}}
	}
}

// takeEntry reads what stands in a map: it takes the place of one of the same key, or its own by the keys.
func (r *reader) takeEntry(f check.Field, b []byte) error {
	in, err := r.inner(f, b)
	if err != nil {
		return err
	}
	entry, err := in.entry()
	if err != nil {
		return err
	}
	h := r.of(f)
	place, there := slices.BinarySearchFunc(h.values, entry, func(a, b api.Value) int {
		return keys.Compare(f.Key, a, b)
	})
	if there {
		h.values[place] = entry
	} else {
		h.values = slices.Insert(h.values, place, entry)
	}
	return nil
}

// entry is what was read of what stands in a map, with what is missing. ErrLimit: a message that is missing is too deep.
func (r *reader) entry() (api.Value, error) {
	key, value := r.fields[keyPlace], r.fields[valuePlace]
	if value.Kind == api.Message {
		// No more bytes of it are an empty message, if there were none, and nothing else.
		if err := r.takeMessage(value, nil); err != nil {
			return api.Value{}, err
		}
	}
	m := &api.Msg{Fields: []api.Part{r.single(key), r.single(value)}}
	return api.Value{Sub: m}, nil
}

// single is a field with its one value: 0 or empty, if it is not there.
func (r *reader) single(f check.Field) api.Part {
	if h := r.read[f.Number]; h != nil {
		return api.Part{Number: f.Number, Values: h.all()}
	}
	return api.Part{Number: f.Number, Values: []api.Value{{}}}
}

// takeOneMore reads a message of a field that is Many.
func (r *reader) takeOneMore(f check.Field, b []byte) error {
	in, err := r.inner(f, b)
	if err != nil {
		return err
	}
	h := r.of(f)
	h.values = append(h.values, api.Value{Sub: in.message()})
	return nil
}

// takeMessage reads more bytes of a message of a field that is not Many.
func (r *reader) takeMessage(f check.Field, b []byte) error {
	h := r.of(f)
	if h.sub != nil {
		return h.sub.take(b)
	}
	in, err := r.inner(f, b)
	h.sub = in
	return err
}

// takeText reads a text. ErrForm.
func (r *reader) takeText(f check.Field, text string) error {
	if f.Kind == api.String && !isASCII(text) {
		return api.ErrForm
	}
	r.set(f, api.Value{Text: text})
	return nil
}

// takePacked reads numbers, one behind the other. ErrForm.
func (r *reader) takePacked(f check.Field, b []byte) error {
	for len(b) > 0 {
		n, long, err := getNumber(f.Kind, b)
		if err != nil {
			return err
		}
		r.set(f, api.Value{Num: numberOf(f.Kind, n)})
		b = b[long:]
	}
	return nil
}

// getNumber reads a number of a kind as it stands, without a tag, and how many bytes it has. ErrForm.
func getNumber(kind int, b []byte) (uint64, int, error) {
	switch formOf(kind) {
	case wire.Eight:
		return getFixed(b, 8)
	case wire.Four:
		return getFixed(b, 4)
	}
	return wire.GetVarint(b)
}

// getFixed reads a number of so many bytes, the least one first. ErrForm.
func getFixed(b []byte, many int) (uint64, int, error) {
	if len(b) < many {
		return 0, 0, api.ErrForm
	}
	var n uint64
	for i := range many {
		n |= uint64(b[i]) << (8 * i)
	}
	return n, many, nil
}

// numberOf is a number that was read, as a kind has it.
func numberOf(kind int, n uint64) uint64 {
	switch kind {
	case api.Sint32:
		n = uint64(wire.Zag(uint64(uint32(n))))
	case api.Sint64:
		n = uint64(wire.Zag(n))
	}
	return Fit(kind, n)
}

// all are the values that were read of a field.
func (h *held) all() []api.Value {
	if h.sub != nil {
		return []api.Value{{Sub: h.sub.message()}}
	}
	return h.values
}

// message is what was read, by the fields' numbers.
func (r *reader) message() *api.Msg {
	m := &api.Msg{Rest: string(r.rest)}
	for _, f := range r.fields {
		if h := r.read[f.Number]; h != nil {
			m.Fields = append(m.Fields, api.Part{Number: f.Number, Values: h.all()})
		}
	}
	return m
}

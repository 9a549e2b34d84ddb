package code

import (
	"sealpress/api"
	"sealpress/check"
	"sealpress/wire"
)

// Encode writes a message of a type. ErrMissing: there is no such type; ErrArg: it may not be; ErrLimit: it has more than MaxBytes bytes.
func Encode(t *check.Types, name string, m *api.Msg) ([]byte, error) {
	fields, err := fieldsOf(t, name)
	if err != nil {
		return nil, err
	}
	if !Right(t, name, m) {
		return nil, api.ErrArg
	}
	return encode(t, fields, m)
}

// encode is the bytes of a message, or of what stands in a map, that may be. ErrLimit, as soon as it is known: what is in it has fewer bytes than all of it.
func encode(t *check.Types, fields []check.Field, m *api.Msg) ([]byte, error) {
	var b []byte
	for _, p := range m.Fields {
		f, _ := find(fields, p.Number)
		if f.Many && !isMap(f) && formOf(f.Kind) != wire.Length {
			b = putPacked(b, f, p.Values)
			continue
		}
		for _, v := range p.Values {
			var err error
			if b, err = putValue(t, b, f, v); err != nil {
				return nil, err
			}
		}
	}
	b = append(b, m.Rest...)
	if len(b) > api.MaxBytes {
		return nil, api.ErrLimit
	}
	return b, nil
}

// putPacked writes all numbers of a field behind one tag.
func putPacked(b []byte, f check.Field, values []api.Value) []byte {
	var numbers []byte
	for _, v := range values {
		numbers = putNumber(numbers, f.Kind, v.Num)
	}
	return putBytes(b, f, numbers)
}

// putValue writes one value, with its tag. ErrLimit.
func putValue(t *check.Types, b []byte, f check.Field, v api.Value) ([]byte, error) {
	if v.Sub != nil {
		inner, err := encode(t, fieldsIn(t, f), v.Sub)
		if err != nil {
			return nil, err
		}
		b = putBytes(b, f, inner)
	} else if form := formOf(f.Kind); form == wire.Length {
		b = putBytes(b, f, []byte(v.Text))
	} else {
		b = putNumber(wire.PutTag(b, f.Number, form), f.Kind, v.Num)
	}
	if len(b) > api.MaxBytes {
		return nil, api.ErrLimit
	}
	return b, nil
}

// putBytes writes bytes, with a tag and their length ahead.
func putBytes(b []byte, f check.Field, inner []byte) []byte {
	b = wire.PutTag(b, f.Number, wire.Length)
	b = wire.PutVarint(b, uint64(len(inner)))
	return append(b, inner...)
}

// putNumber writes a number of a kind, without a tag.
func putNumber(b []byte, kind int, n uint64) []byte {
	switch formOf(kind) {
	case wire.Eight:
		return wire.PutFixed(b, n, 8)
	case wire.Four:
		return wire.PutFixed(b, n, 4)
	}
	// A Sint32 that may be has its sign in all 64 bits, so that Zig of it has 32.
	if kind == api.Sint32 || kind == api.Sint64 {
		n = wire.Zig(int64(n))
	}
	return wire.PutVarint(b, n)
}

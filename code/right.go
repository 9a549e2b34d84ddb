package code

import (
	"slices"

	"sealpress/api"
	"sealpress/check"
	"sealpress/keys"
	"sealpress/wire"
)

// Right says whether a message may be of a type: its fields rise, are of the type, and have values that may be.
func Right(t *check.Types, name string, m *api.Msg) bool {
	return rightMessage(t, name, m, 1)
}

// rightMessage says whether a message that is so deep may be of a type.
func rightMessage(t *check.Types, name string, m *api.Msg, deep int) bool {
	fields, err := fieldsOf(t, name)
	// A message that is made by hand may stand in itself: how deep it is ends that.
	if err != nil || m == nil || deep > api.MaxDepth {
		return false
	}
	return rightRest(fields, m.Rest) && rightParts(t, fields, m.Fields, deep)
}

// rightRest says whether bytes are pieces that Decode would not know.
func rightRest(fields []check.Field, rest string) bool {
	pieces, err := wire.Split([]byte(rest))
	if err != nil {
		return false
	}
	known := func(p wire.Piece) bool {
		f, ok := find(fields, p.Number)
		return ok && fits(f, p.Form)
	}
	return !slices.ContainsFunc(pieces, known)
}

// rightParts says whether the fields of a message that is so deep may be.
func rightParts(t *check.Types, fields []check.Field, parts []api.Part, deep int) bool {
	last := 0
	chosen := map[string]int{}
	wrong := func(p api.Part) bool {
		f, ok := find(fields, p.Number)
		if !ok || p.Number <= last {
			return true
		}
		last = p.Number
		if f.Choice != "" {
			chosen[f.Choice]++
		}
		return chosen[f.Choice] > 1 || !rightValues(t, f, p.Values, deep)
	}
	return !slices.ContainsFunc(parts, wrong)
}

// rightValues says whether a field of a message that is so deep may have these values.
func rightValues(t *check.Types, f check.Field, values []api.Value, deep int) bool {
	wrong := func(v api.Value) bool { return !rightValue(t, f, v, deep) }
	if len(values) == 0 || slices.ContainsFunc(values, wrong) {
		return false
	}
	if isMap(f) {
		return keysRise(f.Key, values)
	}
	if f.Many {
		return true
	}
	return len(values) == 1 && (f.Choice != "" || values[0] != api.Value{})
}

// rightValue says whether a field of a message that is so deep may have a value, be it 0 or empty.
func rightValue(t *check.Types, f check.Field, v api.Value, deep int) bool {
	switch {
	case isMap(f):
		return v == api.Value{Sub: v.Sub} && rightEntry(t, f, v.Sub, deep+1)
	case f.Kind == api.Message:
		return v == api.Value{Sub: v.Sub} && rightMessage(t, f.Of, v.Sub, deep+1)
	case f.Kind == api.String:
		return v == api.Value{Text: v.Text} && isASCII(v.Text)
	case f.Kind == api.Bytes:
		return v == api.Value{Text: v.Text}
	}
	return v == api.Value{Num: Fit(f.Kind, v.Num)}
}

// rightEntry says whether something that is so deep may stand in a map: unlike in a message, both fields are there, though they be 0 or empty.
func rightEntry(t *check.Types, f check.Field, m *api.Msg, deep int) bool {
	fields := check.Entry(f)
	if m == nil || deep > api.MaxDepth || m.Rest != "" || len(m.Fields) != len(fields) {
		return false
	}
	for i, p := range m.Fields {
		if p.Number != fields[i].Number || len(p.Values) != 1 || !rightValue(t, fields[i], p.Values[0], deep) {
			return false
		}
	}
	return true
}

// keysRise says whether the keys of what stands in a map, that may be, rise.
func keysRise(kind int, values []api.Value) bool {
	for i := 1; i < len(values); i++ {
		if keys.Compare(kind, values[i-1], values[i]) >= 0 {
			return false
		}
	}
	return true
}

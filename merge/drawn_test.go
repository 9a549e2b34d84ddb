package merge_test

import (
	"cmp"
	"encoding/binary"
	"fmt"
	"math/rand"
	"slices"
	"testing"

	"sealpress/api"
	"sealpress/check"
	"sealpress/code"
	"sealpress/merge"
	"sealpress/parse"
	"sealpress/plain"
)

// modelled is what two messages come to, asked field by field of all that the type has.
func modelled(types *check.Types, name string, a, b *api.Msg) *api.Msg {
	fields, _ := types.Fields(name)
	m := &api.Msg{Rest: a.Rest + b.Rest}
	for _, f := range fields {
		first, second := valuesOf(a, f.Number), valuesOf(b, f.Number)
		for _, other := range fields {
			if f.Choice != "" && other.Choice == f.Choice && other.Number != f.Number && valuesOf(b, other.Number) != nil {
				first = nil
			}
		}
		var values []api.Value
		switch {
		case f.Key != 0:
			values = modelledKeys(f.Key, first, second)
		case f.Many:
			values = slices.Concat(first, second)
		case len(second) == 0:
			values = first
		case f.Kind == api.Message && len(first) == 1:
			values = []api.Value{{Sub: modelled(types, f.Of, first[0].Sub, second[0].Sub)}}
		default:
			values = second
		}
		if len(values) > 0 {
			m.Fields = append(m.Fields, api.Part{Number: f.Number, Values: values})
		}
	}
	return m
}

func valuesOf(m *api.Msg, number int) []api.Value {
	for _, p := range m.Fields {
		if p.Number == number {
			return p.Values
		}
	}
	return nil
}

// key is a key that may be asked for: of numbers as they rise, with their sign or without.
type key struct {
	below bool // 0, with its sign
	num   uint64
	text  string
}

// modelledKeys are what stands in two maps: of each key what came last.
func modelledKeys(kind int, first, second []api.Value) (l []api.Value) {
	all := map[key]api.Value{}
	for _, v := range slices.Concat(first, second) {
		x := v.Sub.Fields[0].Values[0]
		signed := slices.Contains([]int{api.Int32, api.Int64, api.Sint32, api.Sint64, api.Sfixed32, api.Sfixed64}, kind)
		all[key{signed && x.Num >= 1<<63, x.Num, x.Text}] = v
	}
	var rising []key
	for k := range all {
		rising = append(rising, k)
	}
	slices.SortFunc(rising, func(x, y key) int {
		if x.below != y.below {
			if x.below {
				return -1
			}
			return 1
		}
		return cmp.Or(cmp.Compare(x.num, y.num), cmp.Compare(x.text, y.text))
	})
	for _, k := range rising {
		l = append(l, all[k])
	}
	return l
}

// drawing draws types and bytes.
type drawing struct{ *rand.Rand }

func (d drawing) of(l ...string) string { return l[d.Intn(len(l))] }

// types are three types, each of which may stand in each.
func (d drawing) types(t testing.TB) *check.Types {
	kinds := []string{"string", "bool", "int32", "int64", "uint32", "uint64", "sint32", "sint64", "fixed32", "fixed64", "sfixed32", "sfixed64"}
	values := append([]string{"bytes", "E", "K", "K", "L", "L", "M", "M"}, kinds...)
	top := api.TypeDef{Enums: []api.EnumDef{{Name: "E", Items: []api.Item{{Name: "Z"}}}}}
	for _, name := range []string{"K", "L", "M"} {
		def := api.TypeDef{Name: name}
		for n := 1; n <= 7; n++ {
			if d.Intn(5) == 0 {
				continue
			}
			f := api.Field{Name: fmt.Sprint("f", n), Number: n, Type: d.of(values...)}
			how := 1 << d.Intn(4)
			if d.Intn(30) == 0 { // as no text defines it
				how = d.Intn(8)
			}
			f.Many = how&1 != 0
			if how&2 != 0 {
				f.Key = d.of(kinds...)
			}
			if how&4 != 0 {
				f.Choice = d.of("c", "c", "d")
			}
			def.Fields = append(def.Fields, f)
		}
		top.Types = append(top.Types, def)
	}
	types, err := check.Link(top)
	if err != nil {
		t.Fatalf("Link of\n%s: %v", parse.Print(top), err)
	}
	return types
}

// bytes are pieces that mostly are of fields, with few numbers and texts, so that both messages have the same keys.
func (d drawing) bytes(types *check.Types, fields []check.Field, deep int) (b []byte) {
	for range d.Intn(6) {
		f := check.Field{Number: 8, Kind: 1 + d.Intn(14)}
		if len(fields) > 0 && d.Intn(10) > 0 {
			f = fields[d.Intn(len(fields))]
		}
		in, form := d.inner(types, f, deep)
		b = binary.AppendUvarint(b, uint64(f.Number*8+form))
		if form == 2 {
			b = binary.AppendUvarint(b, uint64(len(in)))
		}
		b = append(b, in...)
	}
	return b
}

// inner is what stands in a piece of a field, and its form.
func (d drawing) inner(types *check.Types, f check.Field, deep int) ([]byte, int) {
	n := [...]uint64{0, 1, 2, 3, 1<<64 - 1, 1<<64 - 2, 1 << 63, 1 << 31}[d.Intn(8)]
	switch {
	case f.Key != 0 || f.Kind == api.Message:
		in, _ := types.Fields(f.Of)
		if f.Key != 0 {
			entry := check.Entry(f)
			in = entry[:]
		}
		if deep > 5 && d.Intn(20) > 0 {
			return nil, 2
		}
		return d.bytes(types, in, deep+1), 2
	case f.Kind == api.String || f.Kind == api.Bytes:
		return []byte(d.of("", "a", "b", "ab")), 2
	case f.Kind == api.Fixed32 || f.Kind == api.Sfixed32:
		return binary.LittleEndian.AppendUint32(nil, uint32(n)), 5
	case f.Kind == api.Fixed64 || f.Kind == api.Sfixed64:
		return binary.LittleEndian.AppendUint64(nil, n), 1
	}
	return binary.AppendUvarint(nil, n), 0
}

// 6.1, 6.2: of drawn types, drawn messages are merged as the model merges them, and as their bytes are, one behind the other.
func TestDrawn(t *testing.T) {
	many := map[string]int{}
	for seed := range int64(4000) {
		d := drawing{rand.New(rand.NewSource(seed))}
		types := d.types(t)
		for _, name := range []string{"K", "L", "M"} {
			fields, _ := types.Fields(name)
			a, err := code.Decode(types, name, d.bytes(types, fields, 1))
			b, err2 := code.Decode(types, name, d.bytes(types, fields, 1))
			if err == nil && err2 == nil {
				isAsModel(t, types, name, a, b)
				count(types, name, a, b, many)
			}
		}
	}
	for _, what := range []string{"map", "key", "many", "message", "chosen", "choice", "other"} {
		if many[what] < 100 {
			t.Errorf("of both %s was drawn %d times: %v", what, many[what], many)
		}
	}
}

// isAsModel fails unless two messages, that may be, are merged as is asked.
func isAsModel(t *testing.T, types *check.Types, name string, a, b *api.Msg) {
	t.Helper()
	ahead, behind, want := told(a), told(b), modelled(types, name, a, b)
	m, err := merge.Merge(types, name, a, b)
	if err != nil || !plain.Same(m, want) || !code.Right(types, name, m) {
		t.Fatalf("Merge of %s, %s: %s, %v, want %s", ahead, behind, told(m), err, told(want))
	}
	isFresh(t, m, a, b)
	if told(a) != ahead || told(b) != behind {
		t.Fatalf("%s, %s are %s, %s, as they were merged", ahead, behind, told(a), told(b))
	}
	x, err := code.Encode(types, name, a)
	y, err2 := code.Encode(types, name, b)
	if err != nil || err2 != nil || len(x)+len(y) > api.MaxBytes {
		return
	}
	if joined, err := code.Decode(types, name, slices.Concat(x, y)); err != nil || !plain.Same(joined, m) {
		t.Fatalf("Decode of %x %x: %s, %v, merged %s", x, y, told(joined), err, told(m))
	}
}

// count counts what two messages both have.
func count(types *check.Types, name string, a, b *api.Msg, many map[string]int) {
	fields, _ := types.Fields(name)
	chosen := map[string]int{}
	for _, f := range fields {
		x, y := valuesOf(a, f.Number), valuesOf(b, f.Number)
		if f.Choice != "" && x != nil {
			chosen[f.Choice] += f.Number
		}
		if f.Choice != "" && y != nil {
			chosen[f.Choice] -= f.Number
		}
		if f.Choice != "" && x != nil && y != nil {
			many["chosen"]++
		}
		switch {
		case x == nil || y == nil:
		case f.Key != 0:
			many["map"]++
			if len(modelledKeys(f.Key, x, y)) < len(x)+len(y) {
				many["key"]++
			}
		case f.Many:
			many["many"]++
		case f.Kind == api.Message:
			many["message"]++
			count(types, f.Of, x[0].Sub, y[0].Sub, many)
		default:
			many["other"]++
		}
	}
	for _, n := range chosen {
		if n != 0 {
			many["choice"]++
		}
	}
}

// P1, 6.1, 6.2: whatever two messages are read from.
func FuzzMerge(f *testing.F) {
	for seed := range int64(20) {
		d := drawing{rand.New(rand.NewSource(seed))}
		types := d.types(f)
		fields, _ := types.Fields("K")
		f.Add(seed, d.bytes(types, fields, 1), d.bytes(types, fields, 1))
	}
	f.Fuzz(func(t *testing.T, seed int64, first, second []byte) {
		types := drawing{rand.New(rand.NewSource(seed))}.types(t)
		a, err := code.Decode(types, "K", first)
		b, err2 := code.Decode(types, "K", second)
		if err == nil && err2 == nil {
			isAsModel(t, types, "K", a, b)
			return
		}
		_, err = merge.Merge(types, "K", a, b)
		isErr(t, "Merge of none", err, api.ErrArg)
	})
}

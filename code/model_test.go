package code_test

import (
	"bytes"
	"cmp"
	"encoding/binary"
	"fmt"
	"math/big"
	"math/rand"
	"slices"
	"strings"
	"testing"

	"sealpress/api"
	"sealpress/check"
	"sealpress/code"
	"sealpress/parse"
	"sealpress/plain"
	"sealpress/wire"
)

// inOf are the fields of a message, or of what stands in a map, that a field has.
func inOf(types *check.Types, f check.Field) []check.Field {
	if f.Key != 0 {
		e := check.Entry(f)
		return e[:]
	}
	l, _ := types.Fields(f.Of)
	return l
}

// fieldOf is the field of a number, or nil.
func fieldOf(fields []check.Field, number int) *check.Field {
	for i := range fields {
		if fields[i].Number == number {
			return &fields[i]
		}
	}
	return nil
}

// naive writes a message, whatever it is, as bytes that are read as it was if, and only if, it may be of the type: what has no bytes is left out.
func naive(types *check.Types, name string, m *api.Msg) []byte {
	fields, _ := types.Fields(name)
	return naiveMsg(types, fields, m, 1)
}

func naiveMsg(types *check.Types, fields []check.Field, m *api.Msg, deep int) (b []byte) {
	if m == nil || deep > 9 { // so far alone, as it may stand in itself
		return nil
	}
	for _, p := range m.Fields {
		f := fieldOf(fields, p.Number)
		if f == nil {
			continue
		}
		form := forms()[f.Kind-1]
		var packed []byte
		for _, v := range p.Values {
			switch {
			case f.Key != 0 || f.Kind == api.Message:
				b = naiveBytes(b, *f, naiveMsg(types, inOf(types, *f), v.Sub, deep+1))
			case form == wire.Length:
				b = naiveBytes(b, *f, []byte(v.Text))
			case f.Many:
				packed = naiveNumber(packed, f.Kind, v.Num)
			default:
				b = binary.AppendUvarint(b, uint64(f.Number*8+form))
				b = naiveNumber(b, f.Kind, v.Num)
			}
		}
		if packed != nil {
			b = naiveBytes(b, *f, packed)
		}
	}
	return append(b, m.Rest...)
}

func naiveBytes(b []byte, f check.Field, in []byte) []byte {
	b = binary.AppendUvarint(b, uint64(f.Number*8+2))
	b = binary.AppendUvarint(b, uint64(len(in)))
	return append(b, in...)
}

func naiveNumber(b []byte, kind int, n uint64) []byte {
	switch forms()[kind-1] {
	case wire.Eight:
		return binary.LittleEndian.AppendUint64(b, n)
	case wire.Four:
		return binary.LittleEndian.AppendUint32(b, uint32(n))
	}
	if kind == api.Sint32 || kind == api.Sint64 {
		return binary.AppendVarint(b, int64(n))
	}
	return binary.AppendUvarint(b, n)
}

// model reads by laying all pieces out, and asking of each field which of them count.
type model struct{ types *check.Types }

// laid is a piece, and its bytes.
type laid struct {
	wire.Piece
	raw []byte
	of  *check.Field // that it fits
}

// lay takes bytes apart, as far as they are pieces.
func lay(fields []check.Field, b []byte) (l []laid, err error) {
	for len(b) > 0 {
		p, err := wire.Next(b)
		if err != nil {
			return l, err
		}
		x := laid{Piece: p, raw: b[:p.Long]}
		if f := fieldOf(fields, p.Number); f != nil {
			own := forms()[f.Kind-1]
			if f.Key != 0 && p.Form == 2 || f.Key == 0 && (p.Form == own || f.Many && p.Form == 2) {
				x.of = f
			}
		}
		l, b = append(l, x), b[p.Long:]
	}
	return l, nil
}

func (o model) read(fields []check.Field, b []byte, deep int) (*api.Msg, error) {
	if deep > api.MaxDepth {
		return nil, api.ErrLimit
	}
	l, broken := lay(fields, b)
	for _, x := range l {
		if x.of != nil {
			if _, err := o.values(*x.of, []laid{x}, deep); err != nil {
				return nil, err
			}
		}
	}
	if broken != nil {
		return nil, broken
	}
	m := &api.Msg{}
	for _, f := range fields {
		values, err := o.values(f, counting(f, l), deep)
		if err != nil {
			return nil, fmt.Errorf("together it is wrong, one by one not: %v", err)
		}
		if len(values) > 0 {
			m.Fields = append(m.Fields, api.Part{Number: f.Number, Values: values})
		}
	}
	for _, x := range l {
		if x.of == nil {
			m.Rest += string(x.raw)
		}
	}
	return m, nil
}

// counting are the pieces of a field behind the last one of another field of its choice.
func counting(f check.Field, l []laid) (own []laid) {
	for _, x := range l {
		if x.of == nil {
			continue
		}
		if x.Number == f.Number {
			own = append(own, x)
		} else if f.Choice != "" && x.of.Choice == f.Choice {
			own = nil
		}
	}
	return own
}

// values are those that a field has of its pieces.
func (o model) values(f check.Field, l []laid, deep int) ([]api.Value, error) {
	if f.Key != 0 {
		return o.entries(f, l, deep)
	}
	if f.Kind == api.Message && !f.Many {
		var all []byte
		for _, x := range l {
			all = append(all, x.Bytes...)
		}
		if len(l) == 0 {
			return nil, nil
		}
		m, err := o.read(inOf(o.types, f), all, deep+1)
		return []api.Value{{Sub: m}}, err
	}
	var values []api.Value
	for _, x := range l {
		more, err := o.one(f, x, deep)
		if err != nil {
			return nil, err
		}
		values = append(values, more...)
	}
	if !f.Many && len(values) > 0 {
		values = values[len(values)-1:]
		if f.Choice == "" && values[0].Num == 0 && values[0].Text == "" {
			return nil, nil
		}
	}
	return values, nil
}

// one is the values of one piece.
func (o model) one(f check.Field, x laid, deep int) (l []api.Value, err error) {
	switch {
	case f.Kind == api.Message:
		m, err := o.read(inOf(o.types, f), x.Bytes, deep+1)
		return []api.Value{{Sub: m}}, err
	case f.Kind == api.String && strings.ContainsFunc(string(x.Bytes), func(r rune) bool { return r > 127 }):
		return nil, api.ErrForm
	case f.Kind == api.String || f.Kind == api.Bytes:
		return []api.Value{{Text: string(x.Bytes)}}, nil
	case x.Form != wire.Length:
		return []api.Value{{Num: asKind(f.Kind, x.Num)}}, nil
	}
	for b := bytes.NewReader(x.Bytes); b.Len() > 0; {
		var n uint64
		switch forms()[f.Kind-1] {
		case wire.Eight:
			err = binary.Read(b, binary.LittleEndian, &n)
		case wire.Four:
			var short uint32
			err = binary.Read(b, binary.LittleEndian, &short)
			n = uint64(short)
		default:
			n, err = binary.ReadUvarint(b)
		}
		if err != nil {
			return nil, api.ErrForm
		}
		l = append(l, api.Value{Num: asKind(f.Kind, n)})
	}
	return l, nil
}

// asKind is a number as it is read, by way of numbers of any length.
func asKind(kind int, n uint64) uint64 {
	x := new(big.Int).SetUint64(n)
	two32 := big.NewInt(1 << 32)
	switch kind {
	case api.Bool:
		return uint64(x.Sign())
	case api.Sint32, api.Sint64:
		if kind == api.Sint32 {
			x.Mod(x, two32)
		}
		half, odd := new(big.Int).DivMod(x, big.NewInt(2), new(big.Int))
		if odd.Sign() != 0 {
			half.Sub(big.NewInt(-1), half)
		}
		return uint64(half.Int64())
	case api.Int32, api.Sfixed32, api.Enum:
		x.Mod(x, two32)
		if x.Cmp(big.NewInt(1<<31)) >= 0 {
			x.Sub(x, two32)
		}
		return uint64(x.Int64())
	case api.Uint32, api.Fixed32:
		return x.Mod(x, two32).Uint64()
	}
	return n
}

// entries are what stands in a map: of each key the last one, by the keys.
func (o model) entries(f check.Field, l []laid, deep int) ([]api.Value, error) {
	var all []api.Value
	for _, x := range l {
		in := inOf(o.types, f)
		m, err := o.read(in, x.Bytes, deep+1)
		if err != nil {
			return nil, err
		}
		entry := &api.Msg{}
		for _, e := range in {
			values := []api.Value{{}}
			if e.Kind == api.Message {
				if deep+2 > api.MaxDepth {
					return nil, api.ErrLimit
				}
				values[0].Sub = &api.Msg{}
			}
			for _, p := range m.Fields {
				if p.Number == e.Number {
					values = p.Values
				}
			}
			entry.Fields = append(entry.Fields, api.Part{Number: e.Number, Values: values})
		}
		key := entry.Fields[0].Values[0]
		all = slices.DeleteFunc(all, func(v api.Value) bool { return v.Sub.Fields[0].Values[0] == key })
		all = append(all, api.Value{Sub: entry})
	}
	slices.SortFunc(all, func(a, b api.Value) int {
		x, y := a.Sub.Fields[0].Values[0], b.Sub.Fields[0].Values[0]
		return cmp.Or(keyNumber(f.Key, x).Cmp(keyNumber(f.Key, y)), bytes.Compare([]byte(x.Text), []byte(y.Text)))
	})
	return all, nil
}

func keyNumber(kind int, v api.Value) *big.Int {
	switch kind {
	case api.Int32, api.Int64, api.Sint32, api.Sint64, api.Sfixed32, api.Sfixed64:
		return big.NewInt(int64(v.Num))
	}
	return new(big.Int).SetUint64(v.Num)
}

// isAsModel fails unless bytes are read as the model reads them, and what is read is Right, is written as it would be naively, and is read from that as it was.
func isAsModel(t *testing.T, types *check.Types, name string, b []byte) (*api.Msg, api.Errno) {
	t.Helper()
	fields, missing := types.Fields(name)
	want, err := model{types}.read(fields, b, 1)
	if missing != nil {
		want, err = nil, missing
	} else if len(b) > api.MaxBytes {
		want, err = nil, api.ErrLimit
	}
	got, told1 := code.Decode(types, name, b)
	if told1 != err || err == nil && !plain.Same(got, want) || err != nil && got != nil {
		t.Fatalf("Decode of %s, %x: %s, %v, want %s, %v", name, b, told(got), told1, told(want), err)
	}
	if err != nil {
		return nil, api.Tell(err)
	}
	if !code.Right(types, name, got) {
		t.Fatalf("Decode of %s, %x: %s is not Right", name, b, told(got))
	}
	isBack(t, types, name, got)
	return got, api.OK
}

// isBack fails unless a message that may be is written as it would be naively, and read as it was.
func isBack(t *testing.T, types *check.Types, name string, m *api.Msg) {
	t.Helper()
	want := naive(types, name, m)
	b, err := code.Encode(types, name, m)
	if len(want) > api.MaxBytes {
		isErr(t, "Encode of too much", err, api.ErrLimit)
		return
	}
	back, err2 := code.Decode(types, name, b)
	if err != nil || err2 != nil || !bytes.Equal(b, want) || !plain.Same(back, m) {
		t.Fatalf("Encode of %s, %s: %x, %v, want %x; Decode: %s, %v", name, told(m), b, err, want, told(back), err2)
	}
}

// drawing draws types, bytes and messages.
type drawing struct {
	*rand.Rand
	off int // of so many values one is wrong
}

func (d drawing) of(l ...string) string { return l[d.Intn(len(l))] }

func (d drawing) wrong() bool { return d.Intn(d.off) == 0 }

// types are three types, each of which may stand in each.
func (d drawing) types(t testing.TB) *check.Types {
	top := api.TypeDef{Enums: []api.EnumDef{{Name: "E", Items: []api.Item{{Name: "Z"}}}}}
	for _, name := range []string{"K", "L", "M"} {
		def := api.TypeDef{Name: name}
		for n := 1; n <= 6; n++ {
			if d.Intn(5) == 0 {
				continue
			}
			f := api.Field{Name: fmt.Sprint("f", n), Number: n, Type: d.of(append(kindNames(), "K", "L", "M", "M", "string")...)}
			how := 1 << d.Intn(4)
			if d.Intn(30) == 0 { // as no text defines it
				how = d.Intn(8)
			}
			f.Many = how&1 != 0
			if how&2 != 0 {
				f.Key = d.of(kindNames()[:12]...)
			}
			if how&4 != 0 {
				f.Choice = d.of("c", "c", "d")
			}
			def.Fields = append(def.Fields, f)
		}
		top.Types = append(top.Types, def)
	}
	types, err := check.Link(top)
	if err != nil {
		t.Fatalf("Link of\n%s: %v", parse.Print(top), err)
	}
	return types
}

func (d drawing) number() uint64 {
	n := d.Uint64() >> d.Intn(64)
	return [...]uint64{0, 0, 1, 2, n, n, -n, 1 << 31, 1<<31 - 1, 1 << 32, minus, lowest32, 1 << 63}[d.Intn(13)]
}

func (d drawing) text() string {
	return d.of("", "", "a", "b", "ab", "\x00", "\x7f", "xyz", "\x80", "\x08\x01", "\xff\xff")
}

// bytes are pieces, mostly such as the fields have, so that what is drawn is read far in.
func (d drawing) bytes(types *check.Types, fields []check.Field, deep int) (b []byte) {
	for range d.Intn(5) {
		f := check.Field{Number: 1 + d.Intn(8), Kind: 1 + d.Intn(14)}
		if len(fields) > 0 && d.Intn(8) > 0 {
			f = fields[d.Intn(len(fields))]
		}
		form := forms()[f.Kind-1]
		if f.Key != 0 || f.Many && d.Intn(2) == 0 {
			form = 2
		}
		if d.wrong() {
			form = [...]int{0, 1, 2, 5, 3, 7}[d.Intn(6)]
		}
		b = binary.AppendUvarint(b, uint64(f.Number*8+form))
		switch form {
		case 0:
			b = binary.AppendUvarint(b, d.number())
		case 1:
			b = binary.LittleEndian.AppendUint64(b, d.number())
		case 5:
			b = binary.LittleEndian.AppendUint32(b, uint32(d.number()))
		case 2:
			in := d.inner(types, f, deep)
			b = append(binary.AppendUvarint(b, uint64(len(in))), in...)
		}
	}
	if d.Intn(5*d.off) == 0 && len(b) > 0 {
		b = b[:d.Intn(len(b))]
	}
	return b
}

// inner is what stands in a piece of the form Length.
func (d drawing) inner(types *check.Types, f check.Field, deep int) (b []byte) {
	if d.wrong() {
		return []byte(d.text())
	}
	if f.Key != 0 || f.Kind == api.Message {
		if deep > 8 {
			return nil
		}
		return d.bytes(types, inOf(types, f), deep+1)
	}
	if forms()[f.Kind-1] == 2 {
		return []byte(d.text())
	}
	for range d.Intn(4) {
		b = naiveNumber(b, f.Kind, d.number())
	}
	return b
}

// msg is a message that mostly may be, in ways that are often wrong.
func (d drawing) msg(types *check.Types, fields []check.Field, deep int) *api.Msg {
	m := &api.Msg{}
	chosen := map[string]bool{}
	for _, f := range fields {
		if d.Intn(3) == 0 || chosen[f.Choice] && !d.wrong() || deep > 5 && d.Intn(8) > 0 {
			continue
		}
		chosen[f.Choice] = f.Choice != ""
		p := api.Part{Number: f.Number}
		many := 1
		if f.Key != 0 || f.Many {
			many += d.Intn(3)
		}
		if d.wrong() {
			many = d.Intn(3)
		}
		for range many {
			p.Values = append(p.Values, d.value(types, f, deep))
		}
		m.Fields = append(m.Fields, p)
	}
	if d.Intn(4) == 0 {
		m.Rest = d.of("\x48\x01", "\x52\x01\x80", "\x4d1234", "\x08\x80\x00", "\x12\x00", "\x1d1234")
	}
	if d.Intn(3*d.off) == 0 {
		m.Rest += d.of("\x00", "\x48", "\x08\x01", "\x12\x00")
	}
	if d.wrong() && len(m.Fields) > 1 {
		m.Fields[0], m.Fields[1] = m.Fields[1], m.Fields[0]
	}
	if d.wrong() && len(m.Fields) > 0 {
		m.Fields[0].Number = d.Intn(9)
	}
	return m
}

func (d drawing) value(types *check.Types, f check.Field, deep int) (v api.Value) {
	switch {
	case f.Key != 0:
		e := check.Entry(f)
		v.Sub = &api.Msg{Fields: []api.Part{{Number: 1, Values: []api.Value{d.value(types, e[0], deep+1)}}, {Number: 2, Values: []api.Value{d.value(types, e[1], deep+1)}}}}
		if d.wrong() {
			v.Sub = d.msg(types, e[:], deep+1)
		}
	case f.Kind == api.Message:
		v.Sub = d.msg(types, inOf(types, f), deep+1)
	case forms()[f.Kind-1] == 2:
		v.Text = d.of("a", "b", "ab", "\x7f")
		if d.wrong() {
			v.Text = d.text()
		}
	default:
		v.Num = asKind(f.Kind, d.number()|1)
		if d.wrong() {
			v.Num = d.number()
		}
	}
	if d.wrong() {
		v = [...]api.Value{{}, {Num: 1}, {Text: "a"}, {Sub: &api.Msg{}}, {Num: v.Num, Text: "a", Sub: v.Sub}, {Num: 1, Text: v.Text, Sub: v.Sub}}[d.Intn(6)]
	}
	return v
}

// 5.4, 5.5: of drawn types, drawn bytes are read as the model reads them.
func TestDrawnBytes(t *testing.T) {
	var many [20]int
	deep, maps := 0, 0
	for seed := range int64(4000) {
		d := drawing{rand.New(rand.NewSource(seed)), 4 + int(seed%4)*40}
		types := d.types(t)
		for _, name := range []string{"K", "L", "M", "K", "L", "M", "E"} {
			fields, _ := types.Fields(name)
			m, e := isAsModel(t, types, name, d.bytes(types, fields, 1))
			many[e]++
			if m != nil && strings.Contains(told(m), "}}}}") {
				deep++
			}
			if m != nil && strings.Contains(told(m), "={1=") {
				maps++
			}
		}
	}
	for _, e := range []api.Errno{api.OK, api.ErrMissing, api.ErrForm, api.ErrLimit} {
		if many[e] < 100 {
			t.Errorf("error %d was drawn %d times", e, many[e])
		}
	}
	if deep < 100 || maps < 100 {
		t.Errorf("%d deep ones, %d maps were drawn", deep, maps)
	}
}

// 5.2, 5.3, 5.5: of drawn types, drawn messages are Right if, and only if, they are read as they were from what is written naively.
func TestDrawnMessages(t *testing.T) {
	var many [2]int
	for seed := range int64(1500) {
		d := drawing{rand.New(rand.NewSource(seed)), 10 + int(seed%4)*100}
		types := d.types(t)
		for range 8 {
			fields, _ := types.Fields("K")
			m := d.msg(types, fields, 1)
			back, err := model{types}.read(fields, naive(types, "K", m), 1)
			want := err == nil && plain.Same(back, m)
			if got := code.Right(types, "K", m); got != want {
				t.Fatalf("Right of %s: %v; %x is %s, %v", told(m), got, naive(types, "K", m), told(back), err)
			}
			if want {
				many[1]++
				isBack(t, types, "K", m)
			} else {
				many[0]++
				_, err := code.Encode(types, "K", m)
				isErr(t, "Encode of "+told(m), err, api.ErrArg)
			}
		}
	}
	if min(many[0], many[1]) < 1000 {
		t.Errorf("%d wrong ones, %d right ones were drawn", many[0], many[1])
	}
}

// P1, 5.4, 5.5: whatever bytes are, they are read as the model reads them.
func FuzzDecode(f *testing.F) {
	for seed := range int64(20) {
		d := drawing{rand.New(rand.NewSource(seed)), 50}
		types := d.types(f)
		fields, _ := types.Fields("K")
		f.Add(seed, d.bytes(types, fields, 1))
	}
	f.Fuzz(func(t *testing.T, seed int64, b []byte) {
		d := drawing{rand.New(rand.NewSource(seed)), 50}
		isAsModel(t, d.types(t), "K", b)
	})
}

package merge_test

import (
	"fmt"
	"slices"
	"strings"
	"testing"

	"sealpress/api"
	"sealpress/check"
	"sealpress/code"
	"sealpress/merge"
	"sealpress/plain"
)

// 6.1: what each field comes to; 6.2: bytes, one behind the other, are just that.
func TestMerge(t *testing.T) {
	types := linked(t, sample())
	for _, c := range []struct{ name, a, b, want string }{
		// The document's example.
		{"A", "0805 120178 220102", "0807 1a00 220104", `{1=7 3={} 4=1 4=2}`},
		// Nothing, and one alone.
		{"A", "", "", `{}`},
		{"None", "", "", `{}`},
		{"A", "0805 120178 220102 2a030a0161 3801", "", `{1=5 2="x" 4=1 5={1="a" 2={}} ~3801}`},
		{"A", "", "0805 120178 220102 2a030a0161 3801", `{1=5 2="x" 4=1 5={1="a" 2={}} ~3801}`},
		// Of others the second one's, if it has it.
		{"One", "0801 1004 2501000000 2a0161 320162 3801", "1006 2502000000 2a0163 3202ffff 38fbffffffffffffffff01", `{1=1 2=3 4=2 5="c" 6="\xff\xff" 7=-5}`},
		{"One", "1004 2a0161", "0801 2501000000 320162 3801", `{1=1 2=2 4=1 5="a" 6="b" 7=1}`},
		{"One", "0801", "0800", `{1=1}`}, // 0 is not there: so the first one's
		{"One", "2a0161", "0801", `{1=1 5="a"}`},
		// A message that both have.
		{"One", "1a020805", "1a020807", `{3={1=7}}`},
		{"One", "1a020805", "1a00", `{3={1=5}}`},
		{"One", "1a00", "1a020807", `{3={1=7}}`},
		{"One", "1a020805 1004", "1006", `{2=3 3={1=5}}`},
		{"One", "1006", "1a00", `{2=3 3={}}`},
		{"One", "1a0418011001", "1a0620012a000807", `{3={1=7 ~1801100120012a00}}`},
		{"Deep", "0a060a0428013200", "0a070a053a01781200", `{1={1={2={} 5=1 7="x"}}}`},
		{"Deep", "0a080a060a0428011200", "0a090a070a053a01611200", `{1={1={1={2={} 2={} 5=1 7="a"}}}}`},
		// Many: the first one's, then the second one's.
		{"Many", "0a0101 1a0162 3200", "0a020001 1a0161 1a00 32020801", `{1=1 1=0 1=1 3="b" 3="a" 3=0 6={} 6={1=1}}`},
		{"Many", "2a020100 22016232020802", "1208 0100000000000000 2201ff 2a0afbffffffffffffffff01 32020801", `{2=1 4="b" 4="\xff" 5=1 5=0 5=-5 6={1=2} 6={1=1}}`},
		// Maps: all keys, by the keys; of one that both have the second one's value, as it is.
		{"Map", "0a030a0162 0a03120178", "0a060a0161120179 0a030a0163", `{1={1=0 2="x"} 1={1="a" 2="y"} 1={1="b" 2=0} 1={1="c" 2=0}}`},
		{"Map", "0a060a0161120178 0a060a0162120178 0a060a0163120178", "0a060a0162120179", `{1={1="a" 2="x"} 1={1="b" 2="y"} 1={1="c" 2="x"}}`},
		{"Map", "0a060a0161120178", "0a030a0161", `{1={1="a" 2=0}}`},
		{"Map", "0a060a0162120178", "0a060a0161120179 0a060a0162120179 0a060a0163120179", `{1={1="a" 2="y"} 1={1="b" 2="y"} 1={1="c" 2="y"}}`},
		{"Map", "1204 08011002 120208 05", "120d08ffffffffffffffffff011006 12040803 1001", `{2={1=-1 2=3} 2={1=1 2=1} 2={1=3 2=-1} 2={1=5 2=0}}`},
		{"Map", "1a0b08ffffffffffffffffff01 1a020801", "1a020802 1a0a08ffffffffffffffff7f", `{3={1=1 2=0} 3={1=2 2=0} 3={1=9223372036854775807 2=0} 3={1=-1 2=0}}`},
		{"Map", "2204 08001200 22040801 1200", "22060800 12020805", `{4={1=0 2={1=5}} 4={1=1 2={}}}`},
		{"Map", "22060800 12022004", "22060800 12020805", `{4={1=0 2={1=5}}}`}, // messages in maps are not put together
		{"Map", "2a0b 09ffffffffffffffff1001", "2a0b090100000000000000 1001 2a0b 09ffffffffffffffff1000", `{5={1=-1 2=0} 5={1=1 2=1}}`},
		// Choices: of one of which the second one has one the first one's others are not there.
		{"Two", "0801", "2a0178", `{5="x"}`},
		{"Two", "2a0178", "0801", `{1=1}`},
		{"Two", "2a0178", "0800", `{1=0}`},
		{"Two", "0801", "2a00", `{5=0}`},
		{"Two", "0801", "0800", `{1=0}`},
		{"Two", "0801", "0802", `{1=2}`},
		{"Two", "0801", "1805", `{1=1 3=5}`},
		{"Two", "0801 2001", "2a00 1805", `{3=5 4=1 5=0}`},
		{"Two", "4a020805 1805", "0801", `{1=1 3=5}`},
		{"Two", "0801", "4a020805", `{9={1=5}}`},
		{"Two", "4a020805", "4a022004", `{9={1=5 4=2}}`},
		{"Two", "4a020805 2a0178", "4a022004", `{9={4=2}}`},
		{"Two", "0801 12020805", "3a00 2001 4a00", `{4=1 9={} ~3a00}`},
		{"Two", "3204 0801 2001", "3203 2a0178", `{6={4=1 5="x"}}`},
		{"Two", "3204 0801 2001", "1200", `{2={}}`},
		{"Two", "4a020805", "3202 0801", `{6={1=1} 9={1=5}}`},
		{"A", "1a041a020801", "1a03120178", `{3={2="x"}}`},
		{"A", "1a041a020801", "1a041a022004", `{3={3={1=1 4=2}}}`},
		// Rest: the first one's, then the second one's, as it stands.
		{"A", "388000 0801 0a0132", "0a0133 3d01020304 0802", `{1=2 ~3880000a01320a01333d01020304}`},
		{"None", "0801", "0802 0801", `{~080108020801}`},
		{"None", "0801 120131", "", `{~0801120131}`},
	} {
		isMerged(t, types, c.name, raw(t, c.a), raw(t, c.b), c.want)
	}
}

// isMerged fails unless two messages, by their bytes, come to this, and so do their bytes, one behind the other.
func isMerged(t *testing.T, types *check.Types, name string, first, second []byte, want string) {
	t.Helper()
	a, b := read(t, types, name, first), read(t, types, name, second)
	ahead, behind := told(a), told(b)
	m, err := merge.Merge(types, name, a, b)
	if err != nil || told(m) != want {
		t.Errorf("Merge of %s: %s, %s: %s, %v, want %s", name, ahead, behind, told(m), err, want)
	}
	if told(a) != ahead || told(b) != behind {
		t.Errorf("Merge of %s: %s, %s: they are %s, %s then", name, ahead, behind, told(a), told(b))
	}
	isFresh(t, m, a, b)
	if !code.Right(types, name, m) {
		t.Errorf("Merge of %s: %s, %s: %s is not Right", name, ahead, behind, told(m))
	}
	// Not the bytes as they came: what is 0 in them would take the place of what is ahead.
	x, _ := code.Encode(types, name, a)
	y, _ := code.Encode(types, name, b)
	if joined := read(t, types, name, slices.Concat(x, y)); !plain.Same(joined, m) {
		t.Errorf("Decode of %s: %x %x: %s, merged %s", name, x, y, told(joined), told(m))
	}
}

// 6.1: no types, no such type; both tell that ahead of what may not be.
func TestNoType(t *testing.T) {
	types := linked(t, sample())
	right, wrong := &api.Msg{}, &api.Msg{Rest: "\x00"}
	for _, l := range []*check.Types{nil, {}, types} {
		names := []string{"", "E", "In", ".A", "a", "A ", "A.c", "One.d", "One.in", "int32", "X"}
		if l != types {
			names = append(names, "A", "None")
		}
		for _, name := range names {
			for _, a := range []*api.Msg{nil, right, wrong} {
				for _, b := range []*api.Msg{nil, right, wrong} {
					m, err := merge.Merge(l, name, a, b)
					isErr(t, fmt.Sprintf("Merge of no type %q", name), err, api.ErrMissing)
					if m != nil {
						t.Errorf("%s beside an error", told(m))
					}
				}
			}
		}
	}
}

// 6.1: both are to be Right.
func TestNotRight(t *testing.T) {
	types := linked(t, sample())
	deep := msg()
	for range api.MaxDepth {
		deep = msg(sub(1, deep))
	}
	round := msg()
	round.Fields = []api.Part{sub(1, round)}
	entry := func(key, value uint64) *api.Msg { return msg(number(1, key), number(2, value)) }
	for _, c := range []struct {
		name  string
		wrong *api.Msg
	}{
		{"A", nil},
		{"A", msg(number(9, 1))},
		{"A", msg(number(1, 0))},
		{"A", msg(number(1, 1<<31))},
		{"A", msg(number(0, 1))},
		{"A", msg(api.Part{Number: 1})},
		{"A", msg(api.Part{Number: 1, Values: []api.Value{{Num: 1}, {Num: 2}}})},
		{"A", msg(api.Part{Number: 1, Values: []api.Value{{Num: 1, Text: "x"}}})},
		{"A", msg(api.Part{Number: 2, Values: []api.Value{{Text: "\x80"}}})},
		{"A", msg(number(4, 1), number(1, 1))},
		{"A", msg(number(1, 1), number(1, 1))},
		{"A", msg(number(2, 0), sub(3, msg()))},
		{"A", msg(sub(3, nil))},
		{"A", msg(sub(3, msg(number(1, 0))))},
		{"A", &api.Msg{Rest: "\x08"}},
		{"A", &api.Msg{Rest: "\x08\x01"}},
		{"None", &api.Msg{Rest: "\x00"}},
		{"Map", msg(sub(2, msg()))},
		{"Map", msg(sub(2, msg(number(1, 1))))},
		{"Map", msg(api.Part{Number: 2, Values: []api.Value{{Sub: entry(2, 0)}, {Sub: entry(1, 0)}}})},
		{"Map", msg(api.Part{Number: 2, Values: []api.Value{{Sub: entry(1, 0)}, {Sub: entry(1, 0)}}})},
		{"Deep", deep},
		{"Deep", round},
	} {
		before := told(c.wrong)
		for _, both := range [][2]*api.Msg{{c.wrong, {}}, {{}, c.wrong}, {c.wrong, c.wrong}, {c.wrong, nil}, {nil, c.wrong}} {
			m, err := merge.Merge(types, c.name, both[0], both[1])
			isErr(t, fmt.Sprintf("Merge of %s: %s, %s", c.name, told(both[0]), told(both[1])), err, api.ErrArg)
			if m != nil || told(c.wrong) != before {
				t.Errorf("%s beside an error, %s is %s", told(m), before, told(c.wrong))
			}
		}
	}
}

// 6.1, 'Limits': messages as deep as they may be come to one that is no deeper; there may be more bytes than Encode writes.
func TestMuch(t *testing.T) {
	types := linked(t, sample())
	a, b := msg(number(5, 1)), &api.Msg{Rest: "\x80\x01\x01"}
	want := `{5=1 ~800101}`
	for range api.MaxDepth - 1 {
		a, b, want = msg(sub(1, a)), msg(sub(1, b)), "{1="+want+"}"
	}
	m, err := merge.Merge(types, "Deep", a, b)
	if err != nil || told(m) != want {
		t.Errorf("Merge of deep ones: %s, %v, want %s", told(m), err, want)
	}
	text := strings.Repeat("x", api.MaxBytes-3)
	long := msg(api.Part{Number: 3, Values: []api.Value{{Text: text}}})
	m, err = merge.Merge(types, "Many", long, long)
	if want := fmt.Sprintf(`{3="%s" 3="%s"}`, text, text); err != nil || told(m) != want {
		t.Errorf("Merge of long ones: %.60s, %v", told(m), err)
	}
	isFresh(t, m, long)
	_, err = code.Encode(types, "Many", m)
	isErr(t, "Encode of long ones", err, api.ErrLimit)
}

// 6.1: many keys, in turns and in part the same.
func TestManyKeys(t *testing.T) {
	types := linked(t, sample())
	list := func(from, to, step int, value uint64) *api.Msg {
		p := api.Part{Number: 2}
		for n := from; n < to; n += step {
			p.Values = append(p.Values, api.Value{Sub: msg(number(1, uint64(n)), number(2, value))})
		}
		return msg(p)
	}
	for _, c := range []struct{ from, to, step int }{{-60000, 60000, 2}, {-60000, 60000, 3}, {-59999, 60001, 2}, {60000, 70000, 1}, {-70000, -60000, 1}, {0, 1, 1}} {
		m, err := merge.Merge(types, "Map", list(-60000, 60000, 2, 1), list(c.from, c.to, c.step, 2))
		if err != nil || !code.Right(types, "Map", m) {
			t.Fatalf("Merge with keys from %d to %d: %v", c.from, c.to, err)
		}
		values := map[int]uint64{}
		for n := -60000; n < 60000; n += 2 {
			values[n] = 1
		}
		for n := c.from; n < c.to; n += c.step {
			values[n] = 2
		}
		if len(values) != len(m.Fields[0].Values) {
			t.Errorf("%d keys from %d to %d, want %d", len(m.Fields[0].Values), c.from, c.to, len(values))
		}
		for _, v := range m.Fields[0].Values {
			key, value := int(v.Sub.Fields[0].Values[0].Num), v.Sub.Fields[1].Values[0].Num
			if values[key] != value {
				t.Fatalf("key %d: %d, want %d", key, value, values[key])
			}
		}
	}
}

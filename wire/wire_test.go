package wire_test

import (
	"bytes"
	"encoding/binary"
	"errors"
	"math"
	"slices"
	"testing"

	"sealpress/api"
	"sealpress/plain"
	"sealpress/wire"
)

// numbers are the edges of each count of bits, and some between.
func numbers() []uint64 {
	l := []uint64{0, 1, 2, 127, 128, 129, 300, 16383, 16384, 1<<31 - 1, 1 << 31, 1<<32 - 1, 1 << 32, math.MaxInt64, 1 << 63, math.MaxUint64}
	for k := range 64 {
		l = append(l, 1<<k-1, 1<<k, 1<<k+1, ^uint64(0)>>k, 0x9e3779b97f4a7c15>>k)
	}
	return l
}

// repeat is one byte many times, and what stands behind.
func repeat(x byte, many int, behind ...byte) []byte {
	return append(bytes.Repeat([]byte{x}, many), behind...)
}

// isForm fails unless an error is ErrForm, without a place.
func isForm(t *testing.T, what string, b []byte, err error) {
	t.Helper()
	e, place := plain.Place(err)
	var at *api.At
	if e != api.ErrForm || place != -1 || errors.As(err, &at) {
		t.Errorf("%s of % x: error %v, want ErrForm without a place", what, b, err)
	}
}

func same(p, q wire.Piece) bool {
	return p.Number == q.Number && p.Form == q.Form && p.Num == q.Num && bytes.Equal(p.Bytes, q.Bytes) && p.Long == q.Long
}

// 1.1: the forms are those numbers.
func TestForms(t *testing.T) {
	if got, want := [4]int{wire.Varint, wire.Eight, wire.Length, wire.Four}, [4]int{0, 1, 2, 5}; got != want {
		t.Errorf("forms %v, want %v", got, want)
	}
}

// 1.1: PutVarint.
func TestPutVarint(t *testing.T) {
	for _, c := range []struct {
		n    uint64
		want []byte
	}{
		{0, []byte{0}},
		{1, []byte{1}},
		{127, []byte{127}},
		{128, []byte{128, 1}},
		{300, []byte{172, 2}},
		{16383, []byte{255, 127}},
		{16384, []byte{128, 128, 1}},
		{1<<63 - 1, repeat(255, 8, 127)},
		{1 << 63, repeat(128, 9, 1)},
		{math.MaxUint64, repeat(255, 9, 1)},
	} {
		if got := wire.PutVarint(nil, c.n); !bytes.Equal(got, c.want) {
			t.Errorf("PutVarint of %d: % x, want % x", c.n, got, c.want)
		}
	}
	for _, n := range numbers() {
		if got, want := wire.PutVarint([]byte{9, 8}, n), binary.AppendUvarint([]byte{9, 8}, n); !bytes.Equal(got, want) {
			t.Errorf("PutVarint of %d behind 9 8: % x, want % x", n, got, want)
		}
	}
}

// 1.1: Size is how many bytes PutVarint writes.
func TestSize(t *testing.T) {
	for _, c := range []struct {
		n    uint64
		want int
	}{{0, 1}, {1, 1}, {127, 1}, {128, 2}, {16383, 2}, {16384, 3}, {1<<63 - 1, 9}, {1 << 63, 10}, {math.MaxUint64, 10}} {
		if got := wire.Size(c.n); got != c.want {
			t.Errorf("Size of %d: %d, want %d", c.n, got, c.want)
		}
	}
	for _, n := range numbers() {
		if got, want := wire.Size(n), len(wire.PutVarint(nil, n)); got != want {
			t.Errorf("Size of %d: %d, but PutVarint writes %d", n, got, want)
		}
	}
}

// 1.1: GetVarint reads what stands first, and no more of it.
func TestGetVarint(t *testing.T) {
	for _, c := range []struct {
		b    []byte
		n    uint64
		many int
	}{
		{[]byte{0}, 0, 1},
		{[]byte{172, 2}, 300, 2},
		{[]byte{172, 2, 172, 2}, 300, 2},
		{[]byte{127, 255}, 127, 1},
		{[]byte{128, 0}, 0, 2},
		{[]byte{133, 128, 0}, 5, 3},
		{repeat(128, 8, 0), 0, 9},
		{repeat(128, 9, 0), 0, 10},
		{repeat(128, 9, 1), 1 << 63, 10},
		{repeat(255, 9, 0), math.MaxInt64, 10},
		{repeat(255, 9, 1), math.MaxUint64, 10},
		{repeat(255, 9, 1, 255), math.MaxUint64, 10},
	} {
		n, many, err := wire.GetVarint(c.b)
		if n != c.n || many != c.many || err != nil {
			t.Errorf("GetVarint of % x: %d, %d, %v, want %d, %d", c.b, n, many, err, c.n, c.many)
		}
	}
	for _, n := range numbers() {
		b := wire.PutVarint(nil, n)
		if got, many, err := wire.GetVarint(append(b, 255)); got != n || many != len(b) || err != nil {
			t.Errorf("GetVarint of % x: %d, %d, %v, want %d, %d", b, got, many, err, n, len(b))
		}
	}
}

// 1.1: what is no number is ErrForm, and nothing else is told.
func TestGetVarintWrong(t *testing.T) {
	wrong := [][]byte{
		nil,
		{},
		{128},
		{255, 255},
		repeat(255, 9),
		repeat(128, 10),
		repeat(128, 10, 0),
		repeat(128, 9, 2),
		repeat(128, 9, 3),
		repeat(128, 9, 127),
		repeat(128, 9, 129, 0),
		repeat(255, 20, 1),
	}
	for _, b := range wrong {
		n, many, err := wire.GetVarint(b)
		isForm(t, "GetVarint", b, err)
		if n != 0 || many != 0 {
			t.Errorf("GetVarint of % x: %d, %d beside an error, want 0, 0", b, n, many)
		}
	}
}

// 1.1: Zig and Zag.
func TestZigZag(t *testing.T) {
	for _, c := range []struct {
		n    int64
		want uint64
	}{
		{0, 0}, {-1, 1}, {1, 2}, {-2, 3}, {2, 4}, {-150, 299}, {150, 300},
		{math.MaxInt32, 1<<32 - 2}, {math.MinInt32, 1<<32 - 1},
		{math.MaxInt64, math.MaxUint64 - 1}, {math.MinInt64, math.MaxUint64},
	} {
		if got := wire.Zig(c.n); got != c.want {
			t.Errorf("Zig of %d: %d, want %d", c.n, got, c.want)
		}
		if got := wire.Zag(c.want); got != c.n {
			t.Errorf("Zag of %d: %d, want %d", c.want, got, c.n)
		}
	}
	for _, n := range numbers() {
		if got := wire.Zag(wire.Zig(int64(n))); got != int64(n) {
			t.Errorf("Zag of Zig of %d: %d", int64(n), got)
		}
		if got := wire.Zig(wire.Zag(n)); got != n {
			t.Errorf("Zig of Zag of %d: %d", n, got)
		}
	}
}

// 1.1: PutFixed, with the count cut to 0 to 8.
func TestPutFixed(t *testing.T) {
	const n = 0x8877665544332211
	all := []byte{0x11, 0x22, 0x33, 0x44, 0x55, 0x66, 0x77, 0x88}
	for many, want := range map[int]int{
		math.MinInt: 0, -1: 0, 0: 0, 1: 1, 2: 2, 3: 3, 4: 4, 5: 5, 6: 6, 7: 7, 8: 8, 9: 8, 64: 8, math.MaxInt: 8,
	} {
		if got, want := wire.PutFixed([]byte{9}, n, many), append([]byte{9}, all[:want]...); !bytes.Equal(got, want) {
			t.Errorf("PutFixed of %x, %d: % x, want % x", uint64(n), many, got, want)
		}
	}
	if got := wire.PutFixed(nil, 1, 4); !bytes.Equal(got, []byte{1, 0, 0, 0}) {
		t.Errorf("PutFixed of 1, 4: % x", got)
	}
}

// 1.1: PutTag.
func TestPutTag(t *testing.T) {
	for _, c := range []struct {
		number, form int
		want         []byte
	}{
		{1, wire.Varint, []byte{9, 8}},
		{1, wire.Eight, []byte{9, 9}},
		{2, wire.Length, []byte{9, 18}},
		{15, wire.Four, []byte{9, 125}},
		{15, 7, []byte{9, 127}},
		{16, 0, []byte{9, 128, 1}},
		{api.MaxNumber, 0, []byte{9, 248, 255, 255, 255, 15}},
		{api.MaxNumber, 7, []byte{9, 255, 255, 255, 255, 15}},
	} {
		if got := wire.PutTag([]byte{9}, c.number, c.form); !bytes.Equal(got, c.want) {
			t.Errorf("PutTag of %d, %d: % x, want % x", c.number, c.form, got, c.want)
		}
	}
}

// 1.1: of a number or a form that may not be PutTag tells b alone.
func TestPutTagWrong(t *testing.T) {
	for _, c := range [][2]int{
		{0, 0}, {-1, 0}, {math.MinInt, 0}, {api.MaxNumber + 1, 0}, {math.MaxInt, 0},
		{1, -1}, {1, 8}, {1, math.MinInt}, {1, math.MaxInt},
	} {
		if got := wire.PutTag([]byte{9, 8}, c[0], c[1]); !bytes.Equal(got, []byte{9, 8}) {
			t.Errorf("PutTag of %d, %d: % x, want 09 08", c[0], c[1], got)
		}
	}
}

// 1.1, P4: the functions that Put leave what b has as it is, though there be room behind it.
func TestPutKeeps(t *testing.T) {
	puts := map[string]func([]byte) []byte{
		"PutVarint": func(b []byte) []byte { return wire.PutVarint(b, 300) },
		"PutFixed":  func(b []byte) []byte { return wire.PutFixed(b, 300, 4) },
		"PutTag":    func(b []byte) []byte { return wire.PutTag(b, 300, 2) },
	}
	for name, put := range puts {
		for _, room := range []int{0, 1, 2, 20} {
			b := append(make([]byte, 0, 3+room), 1, 2, 3)
			got := put(b)
			if !bytes.Equal(b, []byte{1, 2, 3}) || !bytes.HasPrefix(got, b) || !bytes.Equal(got[3:], put(nil)) {
				t.Errorf("%s with room %d: b is % x, told % x", name, room, b, got)
			}
		}
	}
}

// pieces are bytes, and what stands first in them.
func pieces() []struct {
	b    []byte
	want wire.Piece
} {
	return []struct {
		b    []byte
		want wire.Piece
	}{
		{[]byte{8, 5}, wire.Piece{Number: 1, Form: wire.Varint, Num: 5, Long: 2}},
		{[]byte{8, 172, 2}, wire.Piece{Number: 1, Form: wire.Varint, Num: 300, Long: 3}},
		{[]byte{8, 133, 0}, wire.Piece{Number: 1, Form: wire.Varint, Num: 5, Long: 3}},
		{append([]byte{8}, repeat(255, 9, 1)...), wire.Piece{Number: 1, Form: wire.Varint, Num: math.MaxUint64, Long: 11}},
		{[]byte{136, 0, 5}, wire.Piece{Number: 1, Form: wire.Varint, Num: 5, Long: 3}},
		{append(append([]byte{136}, repeat(128, 8, 0)...), 5), wire.Piece{Number: 1, Form: wire.Varint, Num: 5, Long: 11}},
		{[]byte{128, 1, 0}, wire.Piece{Number: 16, Form: wire.Varint, Long: 3}},
		{[]byte{248, 255, 255, 255, 15, 1}, wire.Piece{Number: api.MaxNumber, Form: wire.Varint, Num: 1, Long: 6}},
		{[]byte{9, 1, 2, 3, 4, 5, 6, 7, 248}, wire.Piece{Number: 1, Form: wire.Eight, Num: 0xf807060504030201, Long: 9}},
		{[]byte{13, 1, 2, 3, 244}, wire.Piece{Number: 1, Form: wire.Four, Num: 0xf4030201, Long: 5}},
		{[]byte{18, 0}, wire.Piece{Number: 2, Form: wire.Length, Long: 2}},
		{[]byte{18, 1, 120}, wire.Piece{Number: 2, Form: wire.Length, Bytes: []byte("x"), Long: 3}},
		{[]byte{18, 131, 0, 1, 2, 3}, wire.Piece{Number: 2, Form: wire.Length, Bytes: []byte{1, 2, 3}, Long: 6}},
		{append([]byte{18, 172, 2}, repeat(7, 300)...), wire.Piece{Number: 2, Form: wire.Length, Bytes: repeat(7, 300), Long: 303}},
	}
}

// 1.2: Next, whatever stands behind.
func TestNext(t *testing.T) {
	for _, c := range pieces() {
		for _, behind := range [][]byte{nil, {0}, {255, 255}, {8, 1}} {
			b := slices.Concat(c.b, behind)
			got, err := wire.Next(b)
			if err != nil || !same(got, c.want) {
				t.Errorf("Next of % x: %v, %v, want %v", b, got, err, c.want)
			}
		}
	}
}

// 1.2: a piece from which bytes are missing is none.
func TestNextCut(t *testing.T) {
	for _, c := range pieces() {
		for k := range c.b {
			p, err := wire.Next(c.b[:k])
			isForm(t, "Next", c.b[:k], err)
			if !same(p, wire.Piece{}) {
				t.Errorf("Next of % x: %v beside an error", c.b[:k], p)
			}
		}
	}
}

// wrong are bytes with which no piece begins.
func wrong() [][]byte {
	room := make([]byte, 20)
	l := [][]byte{
		{128},                          // a tag without an end
		repeat(128, 9, 2, 0, 0),        // a tag that is no number
		{0, 0},                         // number 0
		{1, 0, 0, 0, 0, 0, 0, 0, 0},    // number 0
		{2, 0},                         // number 0
		{128, 128, 128, 128, 16, 0, 0}, // number MaxNumber + 1
		{136, 128, 128, 128, 16, 0, 0}, // number MaxNumber + 2
		append(append([]byte{136}, repeat(128, 8, 1)...), 0),    // 2^63 beside number 1
		append(append([]byte{136}, repeat(128, 4, 1)...), 0, 0), // 2^35 beside number 1
		append([]byte{8}, repeat(128, 9, 2)...),                 // a number that is none
		append([]byte{10}, repeat(128, 9, 2)...),                // a length that is none
		append(append([]byte{10}, repeat(255, 9, 1)...), 1, 2, 3),
		append(append([]byte{10}, repeat(128, 9, 1)...), 1, 2, 3),
		append(append([]byte{10}, repeat(255, 8, 127)...), 1, 2, 3),
		append([]byte{10, 255, 255, 255, 255, 15}, 1, 2, 3),
		append([]byte{10, 128, 128, 128, 128, 16}, 1, 2, 3), // 2^32: none, if it were cut to 32 bits
		{10, 4, 1, 2, 3},
	}
	for _, form := range []byte{3, 4, 6, 7} {
		l = append(l, append([]byte{8 | form}, room...))
	}
	return l
}

// 1.2: ErrForm, and nothing else.
func TestNextWrong(t *testing.T) {
	for _, b := range wrong() {
		p, err := wire.Next(b)
		isForm(t, "Next", b, err)
		if !same(p, wire.Piece{}) {
			t.Errorf("Next of % x: %v beside an error", b, p)
		}
	}
}

// 1.2: Split reads one behind the other, to the end.
func TestSplit(t *testing.T) {
	var b []byte
	var want []wire.Piece
	for _, c := range pieces() {
		got, err := wire.Split(b)
		if err != nil || !slices.EqualFunc(got, want, same) {
			t.Errorf("Split of % x: %v, %v, want %v", b, got, err, want)
		}
		b, want = append(b, c.b...), append(want, c.want)
	}
	if got, err := wire.Split(b); err != nil || !slices.EqualFunc(got, want, same) {
		t.Errorf("Split of % x: %v, %v, want %v", b, got, err, want)
	}
}

// 1.2: nothing is no pieces, but no piece.
func TestSplitEmpty(t *testing.T) {
	for _, b := range [][]byte{nil, {}} {
		if got, err := wire.Split(b); len(got) != 0 || err != nil {
			t.Errorf("Split of nothing: %v, %v", got, err)
		}
		_, err := wire.Next(b)
		isForm(t, "Next", b, err)
	}
}

// 1.2: what is wrong anywhere is ErrForm, and no pieces are told.
func TestSplitWrong(t *testing.T) {
	for _, ahead := range [][]byte{nil, {8, 5}, {18, 1, 120, 8, 5}} {
		for _, w := range wrong() {
			b := slices.Concat(ahead, w)
			got, err := wire.Split(b)
			isForm(t, "Split", b, err)
			if len(got) != 0 {
				t.Errorf("Split of % x: %v beside an error", b, got)
			}
		}
	}
}

// P4: what is handed in stays as it is, and what comes out shares nothing with it, nor with another.
func TestFresh(t *testing.T) {
	b := []byte{18, 2, 1, 2, 18, 2, 3, 4, 18, 0, 18, 1, 5}
	before := slices.Clone(b)
	l, err := wire.Split(b)
	first, other := wire.Next(b)
	if err != nil || other != nil || len(l) != 4 {
		t.Fatalf("Split of % x: %v, %v; Next: %v", b, l, err, other)
	}
	if !bytes.Equal(b, before) {
		t.Errorf("b was % x, is % x", before, b)
	}
	for i := range b {
		b[i] = 99
	}
	for i := range l {
		l[i].Bytes = append(l[i].Bytes, 77, 77, 77)
		l[i].Bytes[0] += 100
	}
	want := [][]byte{{101, 2, 77, 77, 77}, {103, 4, 77, 77, 77}, {177, 77, 77}, {105, 77, 77, 77}}
	for i, p := range l {
		if !bytes.Equal(p.Bytes, want[i]) {
			t.Errorf("piece %d has % x, want % x", i, p.Bytes, want[i])
		}
	}
	if !bytes.Equal(first.Bytes, []byte{1, 2}) {
		t.Errorf("Next's bytes are % x, want 01 02", first.Bytes)
	}
	if slices.ContainsFunc(b, func(x byte) bool { return x != 99 }) {
		t.Errorf("b was written into: % x", b)
	}
}

// P4: what stands behind a list's length is neither read nor written.
func TestBehindLength(t *testing.T) {
	all := []byte{18, 2, 1, 2, 8, 5}
	for k, whole := range []bool{true, false, false, false, true, false, true} {
		before := slices.Clone(all)
		l, err := wire.Split(all[:k])
		if (err == nil) != whole {
			t.Errorf("Split of % x: %v, %v", all[:k], l, err)
		}
		if !bytes.Equal(all, before) {
			t.Errorf("Split of % x wrote: % x", before, all)
		}
	}
}

// FuzzSplit (P1, 1.2): whatever bytes there are, nothing panics, and the pieces, written again, say the same.
func FuzzSplit(f *testing.F) {
	for _, c := range pieces() {
		f.Add(c.b)
	}
	for _, b := range wrong() {
		f.Add(b)
	}
	f.Fuzz(func(t *testing.T, b []byte) {
		if n, many, err := wire.GetVarint(b); err == nil && (many < wire.Size(n) || many > 10 || many > len(b)) {
			t.Errorf("GetVarint of % x: %d, %d", b, n, many)
		}
		l, err := wire.Split(b)
		if err != nil {
			isForm(t, "Split", b, err)
			return
		}
		long, again := 0, []byte(nil)
		for _, p := range l {
			long += p.Long
			again = write(again, p)
		}
		if long != len(b) {
			t.Errorf("Split of % x: pieces of %d bytes", b, long)
		}
		back, err := wire.Split(again)
		if err != nil || !slices.EqualFunc(l, back, sameBut) {
			t.Errorf("Split of % x: %v; written again: %v, %v", b, l, back, err)
		}
	})
}

// sameBut: the same, but for how long they are.
func sameBut(p, q wire.Piece) bool {
	p.Long, q.Long = 0, 0
	return same(p, q)
}

// write puts a piece in as few bytes as it needs.
func write(b []byte, p wire.Piece) []byte {
	b = wire.PutTag(b, p.Number, p.Form)
	switch p.Form {
	case wire.Varint:
		return wire.PutVarint(b, p.Num)
	case wire.Eight:
		return wire.PutFixed(b, p.Num, 8)
	case wire.Four:
		return wire.PutFixed(b, p.Num, 4)
	}
	return append(wire.PutVarint(b, uint64(len(p.Bytes))), p.Bytes...)
}

package code_test

import (
	"bytes"
	"fmt"
	"math"
	"strings"
	"testing"

	"sealpress/api"
	"sealpress/check"
	"sealpress/code"
	"sealpress/plain"
)

const (
	lowest32 = 1<<64 - 1<<31 // -2^31, as 64 bits
	minus    = 1<<64 - 1     // -1, as 64 bits
)

// 5.1: Fit.
func TestFit(t *testing.T) {
	signed := []int{api.Int32, api.Sint32, api.Sfixed32, api.Enum}
	unsigned := []int{api.Uint32, api.Fixed32}
	whole := []int{api.Int64, api.Uint64, api.Sint64, api.Fixed64, api.Sfixed64, api.String, api.Bytes, api.Message, 0, -1, 16, math.MinInt, math.MaxInt}
	for _, c := range []struct{ n, truth, sign, nosign uint64 }{
		{0, 0, 0, 0},
		{1, 1, 1, 1},
		{2, 1, 2, 2},
		{1<<31 - 1, 1, 1<<31 - 1, 1<<31 - 1},
		{1 << 31, 1, lowest32, 1 << 31},
		{1<<32 - 1, 1, minus, 1<<32 - 1},
		{1 << 32, 1, 0, 0},
		{1<<32 + 5, 1, 5, 5},
		{1 << 63, 1, 0, 0},
		{1<<63 + 1<<31 + 7, 1, lowest32 + 7, 1<<31 + 7},
		{lowest32, 1, lowest32, 1 << 31},
		{lowest32 - 1, 1, 1<<31 - 1, 1<<31 - 1},
		{minus, 1, minus, 1<<32 - 1},
	} {
		isFit(t, []int{api.Bool}, c.n, c.truth)
		isFit(t, signed, c.n, c.sign)
		isFit(t, unsigned, c.n, c.nosign)
		isFit(t, whole, c.n, c.n)
	}
}

func isFit(t *testing.T, kinds []int, n, want uint64) {
	t.Helper()
	for _, kind := range kinds {
		if got := code.Fit(kind, n); got != want {
			t.Errorf("Fit(%d, %d) = %d, want %d", kind, n, got, want)
		}
	}
}

// forms are the kinds' forms, in the order of their numbers.
func forms() []int { return []int{0, 0, 0, 0, 0, 0, 0, 5, 1, 5, 1, 2, 2, 0, 2} }

// 5.1: a piece that fits is read, each other goes to Rest, where no piece that fits may be.
func TestFits(t *testing.T) {
	types := linked(t, sample())
	behind := map[int]string{0: "\x01", 1: "\x01\x00\x00\x00\x00\x00\x00\x00", 2: "\x00", 5: "\x01\x00\x00\x00"}
	for i, own := range forms() {
		for form, bytes := range behind {
			piece := string([]byte{byte(i+1)<<3 | byte(form)}) + bytes
			for name, fits := range map[string]bool{
				"One": form == own, "Pick": form == own, "Many": form == own || form == 2, "Map": form == 2,
			} {
				m, err := code.Decode(types, name, []byte(piece))
				if err != nil || (m.Rest == "") != fits || m.Rest != "" && m.Rest != piece {
					t.Errorf("Decode of %x as %s of %s: %s, %v", piece, name, kindNames()[i], told(m), err)
				}
				if got := code.Right(types, name, &api.Msg{Rest: piece}); got != !fits {
					t.Errorf("Right of %x as Rest of %s of %s: %v", piece, name, kindNames()[i], got)
				}
			}
		}
	}
}

// 5.2: what may be of a type; 5.3, 5.4, 5.5: it is written, and read as it was.
func TestRight(t *testing.T) {
	types := linked(t, sample())
	for _, c := range []struct{ name, m string }{
		{"A", `{}`},
		{"A", `{1=5 2="x" 4=-1 4=1}`},
		{"A", `{1=-2147483648 3={} 4=0 4=0 5={1="" 2={}}}`},
		{"A", `{2="\x00\x7f"}`},
		{"A", `{2=0}`}, // an empty text that is chosen
		{"A", `{3={3={2=0}}}`},
		{"A", `{5={1="" 2={}} 5={1="B" 2={1=1}} 5={1="a" 2={5={1="a" 2={}}}} 5={1="aa" 2={}} 5={1="b" 2={}}}`},
		{"A", `{~3001}`},               // number 6
		{"A", `{1=1 ~0a00}`},           // number 1, of another form
		{"A", `{~1001 2d01020304}`},    // numbers 2 and 5
		{"A", `{~b00081808080808000}`}, // more bytes than it needs
		{"Deep", `{1={} 2={} 2={5=1} 3={1=-1 2={}} 3={1=0 2={}} 4={1=0 2=0} 5=7 6={}}`},
		{"Two", `{1=0 4=0}`},
		{"Two", `{2="x" 3=1 5="\xff\x80" 7={536870911=1}}`},
		{"Two", `{6={1=3}}`},
		{"Two.In", `{~0801}`},
		{"K", `{~0801 0800}`},
		{"One", `{1=1 2=-1 3=-1 4=4294967295 5=18446744073709551615 6=-1 7=-1 8=4294967295 9=18446744073709551615 10=-1 11=-1 12="x" 13="\x80" 14=-5 15={}}`},
		{"One", `{14=2147483647}`}, // no item of the enum
		{"Many", `{1=0 1=1 2=0 8=0 9=0 12="x" 12="x" 13="" 13="" 15={} 15={~0801}}`},
		{"Key", `{1={1=0 2=0} 1={1=1 2=0} 2={1=-1 2=0} 2={1=1 2=0} 3={1=-9223372036854775808 2=0} 3={1=9223372036854775807 2=1} 4={1=1 2=0} 4={1=4294967295 2=0}}`},
		{"Key", `{5={1=1 2=0} 5={1=18446744073709551615 2=4294967295} 6={1=-1 2=0} 6={1=0 2=0} 7={1=-1 2=0} 7={1=0 2=0} 8={1=1 2=0} 8={1=4294967295 2=0}}`},
		{"Key", `{9={1=1 2=0} 9={1=18446744073709551615 2=0} 10={1=-1 2=0} 10={1=0 2=0} 11={1=-1 2=0} 11={1=0 2=0} 12={1="" 2=0} 12={1="\x00" 2=0} 12={1="\x7f" 2=0}}`},
		{"Map", `{1={1=5 2=0} 12={1=-5 2=0} 12={1=0 2="x"} 13={1=0 2="\xff"} 14={1=0 2=-9} 15={1=1 2={~0a00}}}`},
	} {
		isRight(t, types, c.name, msg(t, c.m))
	}
}

// isRight fails unless a message is Right, and is read as it was from what is written.
func isRight(t *testing.T, types *check.Types, name string, m *api.Msg) {
	t.Helper()
	before := told(m)
	if !code.Right(types, name, m) {
		t.Errorf("%s may be of %s", before, name)
	}
	b, err := code.Encode(types, name, m)
	if err != nil {
		t.Errorf("Encode of %s, %s: %v", name, before, err)
	}
	back, err := code.Decode(types, name, b)
	if err != nil || !plain.Same(m, back) || told(m) != before {
		t.Errorf("Decode of %s, %x: %s, %v, want %s", name, b, told(back), err, before)
	}
}

// isNotRight fails unless a message is not Right, and is not written.
func isNotRight(t *testing.T, types *check.Types, name string, m *api.Msg) {
	t.Helper()
	if code.Right(types, name, m) {
		t.Errorf("%s may not be of %s", told(m), name)
	}
	b, err := code.Encode(types, name, m)
	isErr(t, fmt.Sprintf("Encode of %s, %s", name, told(m)), err, api.ErrArg)
	if b != nil {
		t.Errorf("Encode of %s, %s: %x beside an error", name, told(m), b)
	}
}

// 5.2: what may not be of a type.
func TestNotRight(t *testing.T) {
	types := linked(t, sample())
	for _, c := range []struct{ name, m string }{
		{"A", `{0=1}`}, {"A", `{6=1}`}, {"A", `{-1=1}`}, {"K", `{1=1}`}, // no fields of the type
		{"A", `{4=1 1=1}`}, {"A", `{1=1 4=1 1=1}`}, // not rising
		{"A", `{1=0}`}, {"One", `{1=0}`}, {"One", `{12=0}`}, {"One", `{13=0}`}, {"One", `{9=0}`}, {"One", `{14=0}`}, // 0, or empty
		{"A", `{1=1 1=2}`}, {"A", `{2="x" 2="y"}`}, {"A", `{3={} 3={}}`}, {"One", `{15={} 15={}}`}, // two values
		{"A", `{2="x" 3={}}`}, {"Two", `{1=0 2=0}`}, {"Two", `{4=1 6={}}`}, {"Two", `{1=1 5="x" 6={}}`}, // two of a choice
		{"A", `{2="\x80"}`}, {"One", `{12="abc\xff"}`}, {"Many", `{12="a" 12="\xc3\xa4"}`}, {"Pick", `{12="\x80"}`},
		{"A", `{1=2147483648}`}, {"A", `{1=4294967295}`}, {"A", `{4=1 4=-2147483649}`}, {"One", `{1=2}`}, {"One", `{4=-1}`}, {"One", `{14=4294967291}`},
		{"A", `{~08}`}, {"A", `{~00}`}, {"A", `{~33}`}, {"A", `{~3a0100ff}`}, // Rest is no pieces
		{"A", `{~0801}`}, {"A", `{~0800}`}, {"A", `{~1200}`}, {"A", `{~2001}`}, {"A", `{~2200}`}, {"A", `{~2a00}`}, {"A", `{~30010800}`}, // it has one that fits
		{"A", `{3={1=0}}`}, {"A", `{3={~1a00}}`}, {"A", `{5={1="" 2={6=1}}}`}, {"Many", `{15={} 15={1=1}}`}, // a message in it may not be
		{"A", `{5={}}`}, {"A", `{5={1="a"}}`}, {"A", `{5={2={}}}`}, {"A", `{5={2={} 1="a"}}`}, {"A", `{5={1="a" 2={} 3=1}}`},
		{"A", `{5={1="a" 3={}}}`}, {"A", `{5={1="a" 1="b" 2={}}}`}, {"A", `{5={1="a" 2={} 2={}}}`}, {"A", `{5={1="a" 2={} ~1801}}`},
		{"A", `{5={1="\x80" 2={}}}`}, {"A", `{5={1=1 2={}}}`}, {"A", `{5={1="a" 2=0}}`}, {"A", `{5={1="a" 2={}} 5={1="b" 2={1=0}}}`},
		{"A", `{5={1="b" 2={}} 5={1="a" 2={}}}`}, {"A", `{5={1="a" 2={}} 5={1="a" 2={}}}`}, {"A", `{5={1="a" 2={}} 5={1="B" 2={}}}`},
		{"A", `{5={1="aa" 2={}} 5={1="a" 2={}}}`}, {"A", `{5={1="a" 2={}} 5={1="c" 2={}} 5={1="b" 2={}}}`},
		{"Key", `{1={1=1 2=0} 1={1=0 2=0}}`}, {"Key", `{1={1=2 2=0}}`}, {"Key", `{2={1=1 2=-1}}`}, {"Key", `{4={1=-1 2=0}}`},
		{"Key", `{2={1=1 2=0} 2={1=-1 2=0}}`}, {"Key", `{3={1=1 2=0} 3={1=-1 2=0}}`}, {"Key", `{6={1=1 2=0} 6={1=-1 2=0}}`},
		{"Key", `{7={1=1 2=0} 7={1=-1 2=0}}`}, {"Key", `{10={1=1 2=0} 10={1=-1 2=0}}`}, {"Key", `{11={1=1 2=0} 11={1=-1 2=0}}`},
		{"Key", `{4={1=4294967295 2=0} 4={1=1 2=0}}`}, {"Key", `{5={1=-1 2=0} 5={1=1 2=0}}`}, {"Key", `{8={1=4294967295 2=0} 8={1=1 2=0}}`}, {"Key", `{9={1=-1 2=0} 9={1=1 2=0}}`},
	} {
		isNotRight(t, types, c.name, msg(t, c.m))
	}
}

// 5.2: each value has what is of its kind alone; a field that is there has a value.
func TestValuesAlone(t *testing.T) {
	types := linked(t, sample())
	for i, form := range forms() {
		right := api.Value{Num: 1}
		switch {
		case kindNames()[i] == "K":
			right = api.Value{Sub: &api.Msg{}}
		case form == 2:
			right = api.Value{Text: "x"}
		}
		both := []api.Value{right, right, right}
		both[0].Num, both[1].Text, both[2].Sub = 1, "x", &api.Msg{}
		for _, v := range append(both, api.Value{}) {
			for _, name := range []string{"One", "Many", "Pick"} {
				m := &api.Msg{Fields: []api.Part{{Number: i + 1, Values: []api.Value{v}}}}
				zero := v == api.Value{} && name != "One" && right.Sub == nil
				if toldValue(v, 1) == toldValue(right, 1) || zero {
					isRight(t, types, name, m)
				} else {
					isNotRight(t, types, name, m)
				}
			}
			entry := &api.Msg{Fields: []api.Part{{Number: 1, Values: []api.Value{{Num: 1}}}, {Number: 2, Values: []api.Value{v}}}}
			m := &api.Msg{Fields: []api.Part{{Number: i + 1, Values: []api.Value{{Sub: entry}}}}}
			if toldValue(v, 1) == toldValue(right, 1) || v == (api.Value{}) && right.Sub == nil {
				isRight(t, types, "Map", m)
			} else {
				isNotRight(t, types, "Map", m)
			}
			for _, around := range []api.Value{{Num: 1, Sub: entry}, {Text: "x", Sub: entry}, {Num: 1}, {Text: "x"}, {}, {Sub: &api.Msg{}}} {
				m.Fields[0].Values[0] = around
				isNotRight(t, types, "Map", m)
			}
		}
		for _, name := range []string{"One", "Many", "Pick", "Map"} {
			isNotRight(t, types, name, &api.Msg{Fields: []api.Part{{Number: i + 1}}})
		}
	}
}

// 5.2, 5.3: no types, no message, no such type.
func TestNoType(t *testing.T) {
	types := linked(t, sample())
	wrong := &api.Msg{Rest: "\x00"}
	long := bytes.Repeat([]byte{0}, api.MaxBytes+1)
	for _, l := range []*check.Types{nil, {}, types} {
		for _, name := range []string{"", "E", "X", ".A", "A.c", "In", "Two.in", "int32", "a"} {
			for _, m := range []*api.Msg{nil, {}, wrong} {
				if code.Right(l, name, m) {
					t.Errorf("Right of no type %q", name)
				}
				b, err := code.Encode(l, name, m)
				isErr(t, "Encode of no type "+name, err, api.ErrMissing)
				if b != nil {
					t.Errorf("%x beside an error", b)
				}
			}
			for _, b := range [][]byte{nil, {8, 1}, {0}, long} {
				m, err := code.Decode(l, name, b)
				isErr(t, "Decode of no type "+name, err, api.ErrMissing)
				if m != nil {
					t.Errorf("%s beside an error", told(m))
				}
			}
		}
	}
	isNotRight(t, types, "A", nil)
	for _, l := range []*check.Types{nil, {}} {
		_, err := code.Encode(l, "A", &api.Msg{})
		isErr(t, "Encode of no types", err, api.ErrMissing)
		_, err = code.Decode(l, "A", nil)
		isErr(t, "Decode of no types", err, api.ErrMissing)
		if code.Right(l, "A", &api.Msg{}) {
			t.Error("Right of no types")
		}
	}
}

// 5.2, 5.4: how deep messages, and what stands in maps, may be.
func TestDeep(t *testing.T) {
	types := linked(t, sample())
	steps := map[byte]struct {
		ahead, behind string
		deep          int
	}{
		'o': {"{1=", "}", 1},           // a message
		'm': {"{2={} 2=", "}", 1},      // one of several
		'c': {"{6=", "}", 1},           // one that is chosen
		'e': {"{3={1=0 2=", "}}", 2},   // one in a map
		'p': {"{4={1=1 2=0} ", "}", 1}, // a number in a map, and nothing more
		'n': {"{5=1", "}", 0},          // a number, and nothing more
	}
	for _, way := range []string{
		"", "n", "p", "oooooo", "ooooon", "ooooo", "oooop", "ooooop", "mmmmm", "mmmmmm", "ccccc", "cccccc", "cmomc", "cmomcm",
		"ee", "een", "eep", "eeo", "eeon", "eeop", "eee", "eoo", "eooe", "eooo", "oeoeo", "oeoe", "oeoep", "ooooe", "oooe", "oooeo", "oooep", "eeeeee", "ooooooooooo",
	} {
		text, behind, deep := "", "", 1
		for i := range len(way) {
			s := steps[way[i]]
			text, behind, deep = text+s.ahead, s.behind+behind, deep+s.deep
		}
		if !strings.HasSuffix(way, "n") && !strings.HasSuffix(way, "p") {
			text += "{}"
		}
		m := msg(t, text+behind)
		if deep <= api.MaxDepth {
			isRight(t, types, "Deep", m)
			continue
		}
		isNotRight(t, types, "Deep", m)
		b := naive(types, "Deep", m)
		got, err := code.Decode(types, "Deep", b)
		isErr(t, fmt.Sprintf("Decode of %s", told(m)), err, api.ErrLimit)
		if got != nil {
			t.Errorf("%s beside an error", told(got))
		}
	}
}

// P1, 5.2: messages that stand in themselves may not be, and each call ends.
func TestRound(t *testing.T) {
	types := linked(t, sample())
	for number := range 8 {
		m := &api.Msg{}
		m.Fields = []api.Part{{Number: number, Values: []api.Value{{Sub: m}, {Sub: m}}}}
		isNotRight(t, types, "Deep", m)
		m.Fields[0].Values = m.Fields[0].Values[:1]
		isNotRight(t, types, "Deep", m)
	}
	entry := &api.Msg{}
	m := &api.Msg{Fields: []api.Part{{Number: 3, Values: []api.Value{{Sub: entry}}}}}
	entry.Fields = []api.Part{{Number: 1, Values: []api.Value{{}}}, {Number: 2, Values: []api.Value{{Sub: m}}}}
	isNotRight(t, types, "Deep", m)
}

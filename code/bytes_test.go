package code_test

import (
	"bytes"
	"fmt"
	"slices"
	"strings"
	"testing"

	"sealpress/api"
	"sealpress/code"
)

// 5.3: a message's bytes; 5.4: what these are.
func TestEncode(t *testing.T) {
	types := linked(t, sample())
	for _, c := range []struct{ name, m, b string }{
		{"A", `{}`, ""},
		{"A", `{1=5 2="x" 4=-1 4=1}`, "0805 120178 22020102"},
		{"A", `{1=300 3={} 4=0}`, "08ac02 1a00 220100"},
		{"A", `{1=-1}`, "08ffffffffffffffffff01"},
		{"A", `{4=-2147483648 4=2147483647 4=-64 4=64}`, "220d ffffffff0f feffffff0f 7f 8001"},
		{"A", `{2=0}`, "1200"},
		{"A", `{3={1=1 3={2=0}}}`, "1a06 0801 1a02 1200"},
		{"A", `{5={1="" 2={}} 5={1="ab" 2={1=1}}}`, "2a04 0a00 1200  2a08 0a026162 12020801"},
		{"A", `{1=1 3={~3801} ~0a0132 3206000000000000}`, "0801 1a023801 0a0132 3206000000000000"},
		{"Two", `{7={536870911=1}}`, "3a06 f8ffffff0f01"},
		{"One", `{1=1 2=2 3=-3 4=4 5=5 6=6 7=-7 8=8 9=9 10=-1 11=-2 12="c" 13="\xff" 14=-5 15={}}`,
			"0801 1002 18fdffffffffffffffff01 2004 2805 300c 380d 4508000000 490900000000000000 55ffffffff 59feffffffffffffff 620163 6a01ff 70fbffffffffffffffff01 7a00"},
		{"One", `{4=4294967295 5=18446744073709551615 6=-2147483648 7=-9223372036854775808 8=4294967295 9=18446744073709551615 10=-2147483648}`,
			"20ffffffff0f 28ffffffffffffffffff01 30ffffffff0f 38ffffffffffffffffff01 45ffffffff 49ffffffffffffffff 5500000080"},
		{"Pick", `{1=0}`, "0800"}, {"Pick", `{6=0}`, "3000"}, {"Pick", `{8=0}`, "4500000000"}, {"Pick", `{11=0}`, "590000000000000000"}, {"Pick", `{13=0}`, "6a00"}, {"Pick", `{14=0}`, "7000"}, {"Pick", `{15={}}`, "7a00"},
		{"Many", `{1=1 1=0 2=-1 3=300 4=1 5=1 6=-1 7=-2 8=1 8=2 9=1 10=-1 11=-1 11=1}`,
			"0a020100 120affffffffffffffffff01 1a02ac02 220101 2a0101 320101 3a0103 42080100000002000000 4a080100000000000000 5204ffffffff 5a10ffffffffffffffff0100000000000000"},
		{"Many", `{12="a" 12="" 13="\xff" 14=1 14=-5 15={} 15={~0801}}`, "620161 6200 6a01ff 720b01fbffffffffffffffff01 7a00 7a020801"},
		{"Map", `{1={1=0 2=1} 6={1=-1 2=-1} 8={1=1 2=1} 9={1=1 2=1} 12={1=1 2="c"} 14={1=1 2=0} 15={1=0 2={~0801}}}`,
			"0a0408001001 320d08ffffffffffffffffff011001 420708011501000000 4a0b0801110100000000000000 620508011201 63 720408011000 7a0608001202 0801"},
		{"Key", `{1={1=1 2=2} 6={1=-1 2=0} 7={1=1 2=0} 8={1=1 2=0} 9={1=1 2=0} 10={1=-1 2=0} 11={1=-1 2=0} 12={1="k" 2=7}}`,
			"0a0408011002 320408011000 3a0408021000 42070d010000001000 4a0b0901000000000000001000 52070dffffffff1000 5a0b09ffffffffffffffff1000 62050a016b1007"},
	} {
		m := msg(t, c.m)
		b, err := code.Encode(types, c.name, m)
		if err != nil || !bytes.Equal(b, raw(t, c.b)) {
			t.Errorf("Encode of %s, %s: %x, %v, want %s", c.name, c.m, b, err, c.b)
		}
		isRead(t, c.name, c.b, c.m)
	}
}

// isRead fails unless bytes are a message (of the sample's types), that is Right.
func isRead(t *testing.T, name, b, want string) {
	t.Helper()
	types := linked(t, sample())
	m, err := code.Decode(types, name, raw(t, b))
	if err != nil || told(m) != told(msg(t, want)) || !code.Right(types, name, m) {
		t.Errorf("Decode of %s, %s: %s, %v, want %s", name, b, told(m), err, want)
	}
}

// 5.3: at most MaxBytes bytes, wherever they are; what may not be is told first.
func TestEncodeLimit(t *testing.T) {
	types := linked(t, sample())
	text := func(n int) string { return strings.Repeat("x", n) }
	ones := func(n int) string { return strings.Repeat("8=1 ", n) }
	for _, c := range []struct {
		name, m string
		long    int
	}{
		{"One", `{13="` + text(3997) + `"}`, 4000},
		{"One", `{13="` + text(3998) + `"}`, 4001},
		{"A", `{3={2="` + text(3994) + `"}}`, 4000},
		{"A", `{3={2="` + text(3995) + `"}}`, 4001},
		{"A", `{3={3={3={2="` + text(4001) + `"}}}}`, 4013},
		{"A", `{1=1 2="` + text(3995) + `"}`, 4000},
		{"A", `{1=128 2="` + text(3995) + `"}`, 4001},
		{"A", `{5={1="` + text(3991) + `" 2={}}}`, 3999},
		{"A", `{5={1="` + text(3992) + `" 2={}}}`, 4000},
		{"A", `{5={1="` + text(3993) + `" 2={}}}`, 4001},
		{"Many", `{8=1 ` + ones(998) + `~6501020304}`, 4004},
		{"Many", `{8=1 ` + ones(998) + `}`, 3999},
		{"Many", `{1=1 ` + ones(999) + `}`, 4002},
		{"Many", `{` + ones(1000) + `}`, 4003},
		{"Many", `{` + strings.Repeat("15={} ", 2000) + `}`, 4000},
		{"Many", `{` + strings.Repeat("15={} ", 2001) + `}`, 4002},
		{"K", `{~` + strings.Repeat("0801", 2000) + `}`, 4000},
		{"K", `{~` + strings.Repeat("0801", 1999) + `088001}`, 4001},
		{"A", `{3={~` + strings.Repeat("3801", 1998) + `} ~3801}`, 4001},
	} {
		m := msg(t, c.m)
		b, err := code.Encode(types, c.name, m)
		if c.long <= api.MaxBytes {
			if err != nil || len(b) != c.long {
				t.Errorf("Encode of %.60s: %d bytes, %v, want %d", c.m, len(b), err, c.long)
			}
			isRight(t, types, c.name, m)
			continue
		}
		isErr(t, fmt.Sprintf("Encode of %.60s, %d bytes", c.m, c.long), err, api.ErrLimit)
		if b != nil || !code.Right(types, c.name, m) {
			t.Errorf("Encode of %.60s: %d bytes, or not Right", c.m, len(b))
		}
	}
	isNotRight(t, types, "A", msg(t, `{2="`+text(5000)+`" 3={}}`))
}

// 5.4: what bytes are that Encode tells not so.
func TestDecode(t *testing.T) {
	for _, c := range []struct{ name, b, m string }{
		// What comes later counts; what is 0 or empty is not there, unless it is chosen.
		{"A", "0805 0807", `{1=7}`},
		{"A", "0805 0800", `{}`},
		{"A", "0800 0805", `{1=5}`},
		{"One", "620178 6200", `{}`},
		{"One", "6200 6a00 7000 4500000000", `{}`},
		{"Pick", "0801 0800", `{1=0}`},
		{"Pick", "620178 6200", `{12=0}`},
		// Numbers as their kinds have them.
		{"A", "0880808080808080808001", `{}`},
		{"A", "08ffffffff0f", `{1=-1}`},
		{"A", "08808080808001", `{}`},
		{"A", "0885808080807f", `{1=5}`},
		{"One", "088080808010", `{1=1}`},
		{"One", "08818000", `{1=1}`},
		{"One", "20ffffffffffffffffff01", `{4=4294967295}`},
		{"One", "30ffffffffffffffffff01", `{6=-2147483648}`},
		{"One", "3081808080f0ffffffff01", `{6=-1}`},
		{"One", "30fdffffffff01", `{6=-2147483647}`},
		{"One", "38ffffffffffffffffff01", `{7=-9223372036854775808}`},
		{"One", "5500000080", `{10=-2147483648}`},
		{"One", "4500000080", `{8=2147483648}`},
		{"One", "70ffffffff07", `{14=2147483647}`},
		{"One", "70808080800f", `{14=-268435456}`},
		// Many: one by one, all behind a tag, or both; none at all is not there.
		{"A", "2001 22020204 2006", `{4=-1 4=1 4=2 4=3}`},
		{"A", "2200", `{}`},
		{"A", "2200 2001 2200", `{4=-1}`},
		{"A", "2205 808000 8100", `{4=0 4=-1}`},
		{"Many", "0801 0a02007f 4d01000000 4501000000 4204ffffffff 4a00", `{1=1 1=0 1=1 8=1 8=4294967295 ~4d01000000}`},
		{"Many", "6200 620161", `{12="" 12="a"}`},
		{"Many", "7a00 7a020801", `{15={} 15={~0801}}`},
		// A message is what all its bytes come to; one of many is one more.
		{"A", "1a020805 1a00", `{3={1=5}}`},
		{"A", "1a020805 1a042a021200", `{3={1=5 5={1="" 2={}}}}`},
		{"A", "1a020805 1a020800", `{3={}}`},
		{"A", "1a03220101 1a022002 1a023801 1a0232 00", `{3={4=-1 4=1 ~38013200}}`},
		{"A", "1a041a020801 0801 1a051a03120178", `{1=1 3={3={1=1 2="x"}}}`},
		{"A", "1a041a020801 1a03120178", `{3={2="x"}}`},
		{"A", "1a041a020801 1a021200 1a041a022001", `{3={3={4=-1}}}`},
		{"Deep", "0a00", `{1={}}`},
		{"Deep", "0a022801 0a022800", `{1={}}`},
		{"Deep", "12022801 12022802", `{2={5=1} 2={5=2}}`},
		// Of a choice what came last; the bytes that came of others are gone.
		{"A", "120178 1a00", `{3={}}`},
		{"A", "1a020805 120178", `{2="x"}`},
		{"A", "1a020805 120178 1a022002", `{3={4=1}}`},
		{"A", "1a020805 1200 1a00", `{3={}}`},
		{"A", "1a020805 1001 1a00", `{3={1=5} ~1001}`}, // 2, but of another form
		{"Two", "0801 2001 120178 2a00", `{2="x" 5=0}`},
		{"Two", "120178 0800 2801 320208 03 3200", `{1=0 6={1=3} ~2801}`},
		{"Two", "3204 0803 2000 3202 0802", `{6={1=2 4=0}}`},
		{"Two", "3204 0803 2000 3203 120178", `{6={2="x" 4=0}}`},
		// A map: what is missing is 0, empty, or an empty message; what is not known is nothing; a key's last one is there, by itself.
		{"A", "2a00", `{5={1="" 2={}}}`},
		{"A", "2a030a0161", `{5={1="a" 2={}}}`},
		{"A", "2a0412020801", `{5={1="" 2={1=1}}}`},
		{"A", "2a08 12020801 12022002", `{5={1="" 2={1=1 4=1}}}`},
		{"A", "2a09 0a0161 0a00 12020801", `{5={1="" 2={1=1}}}`},
		{"A", "2a0a 1801 0801 10011a00 0a00", `{5={1="" 2={}}}`},
		{"A", "2a070a016112020801 2a070a016112022002", `{5={1="a" 2={4=1}}}`},
		{"A", "2a070a016112020801 2a030a0161", `{5={1="a" 2={}}}`},
		{"A", "2a030a0162 2a030a0161 2a030a0142 2a00 2a040a026161", `{5={1="" 2={}} 5={1="B" 2={}} 5={1="a" 2={}} 5={1="aa" 2={}} 5={1="b" 2={}}}`},
		{"Key", "120408011005 12020801 1205080110ff01", `{2={1=1 2=255}}`},
		{"Key", "1202080a 120b08ffffffffffffffffff01 1202080c 12020800 1200", `{2={1=-1 2=0} 2={1=0 2=0} 2={1=10 2=0} 2={1=12 2=0}}`},
		{"Key", "0a020802 0a020801 0a02087f 0a041003 0800", `{1={1=0 2=3} 1={1=1 2=0}}`},
		{"Key", "320408011009 32020801 32020802", `{6={1=-1 2=0} 6={1=1 2=0}}`},
		{"Key", "2a0b08ffffffffffffffffff01 2a020801", `{5={1=1 2=0} 5={1=18446744073709551615 2=0}}`},
		{"Map", "6204 0801 0800 620508001201 61", `{12={1=0 2="a"}}`},
		{"Map", "0a0410021003 6a051201ff0801 7a0408011200", `{1={1=0 2=1} 13={1=1 2="\xff"} 15={1=1 2={}}}`},
		{"Map", "4205 15010000 00", `{8={1=0 2=1}}`},
		{"Map", "4204 10011800", `{8={1=0 2=0}}`},
		// What is not known is kept, as it stands.
		{"A", "3001 0801 388000 0a0132 3d01020304", `{1=1 ~3001 388000 0a0132 3d01020304}`},
		{"A", "b080808000 01 88808000 05", `{1=5 ~b080808000 01}`},
		{"A", "2d01020304 0900000000000000 00", `{~2d01020304 090000000000000000}`},
		{"K", "f8ffffff0f 01", `{~f8ffffff0f01}`},
		// Lengths and tags of more bytes than they need.
		{"A", "8800 05 9200 810078 a280 00 828000 0102", `{1=5 2="x" 4=-1 4=1}`},
	} {
		isRead(t, c.name, c.b, c.m)
	}
}

// 5.4: the errors; of several what stands first is told.
func TestDecodeErrors(t *testing.T) {
	types := linked(t, sample())
	long := strings.Repeat("0801", 2000)
	deep := "0a0a 0a08 0a06 0a04 0a02 0a00" // the last one is 7 deep
	for _, c := range []struct {
		name, b string
		want    api.Errno
	}{
		{"A", long, api.OK},
		{"A", long + "08", api.ErrLimit},
		{"A", long + "0801", api.ErrLimit},
		{"A", "00" + long, api.ErrLimit},
		// No pieces.
		{"A", "08", api.ErrForm}, {"A", "00", api.ErrForm}, {"A", "0b", api.ErrForm}, {"A", "0c", api.ErrForm}, {"A", "0e01", api.ErrForm}, {"A", "0f01", api.ErrForm},
		{"A", "0801 12", api.ErrForm}, {"A", "1202 61", api.ErrForm}, {"A", "3202 00", api.ErrForm}, {"A", "08ffffffffffffffffff02", api.ErrForm}, {"A", "80808080 1001", api.ErrForm},
		{"One", "45010203", api.ErrForm}, {"One", "4901020304050607", api.ErrForm},
		// Texts.
		{"A", "120180", api.ErrForm}, {"A", "120361c3a4", api.ErrForm}, {"A", "12017f", api.OK}, {"Many", "620161 6201ff", api.ErrForm}, {"One", "6a01ff", api.OK},
		{"A", "120180 120161", api.ErrForm}, {"A", "120180 1a00", api.ErrForm}, {"A", "2a030a0180", api.ErrForm}, {"A", "100112017f", api.OK},
		// Numbers behind one tag.
		{"A", "220180", api.ErrForm}, {"A", "22020180", api.ErrForm}, {"A", "220bffffffffffffffffff0201", api.ErrForm}, {"A", "220affffffffffffffffff01", api.OK},
		{"Many", "420401000000", api.OK}, {"Many", "4203010000", api.ErrForm}, {"Many", "42050100000000", api.ErrForm}, {"Many", "4206010000000000", api.ErrForm},
		{"Many", "4a080100000000000000", api.OK}, {"Many", "4a0701000000000000", api.ErrForm}, {"Many", "4a0c010000000000000001000000", api.ErrForm},
		{"Many", "520101", api.ErrForm}, {"Many", "5a0401000000", api.ErrForm}, {"Many", "720180", api.ErrForm}, {"Many", "0a0180", api.ErrForm},
		// Messages, and what stands in maps, though others take their places.
		{"A", "1a0108", api.ErrForm}, {"A", "1a0100 120161", api.ErrForm}, {"A", "1a0108 1a0101", api.ErrForm}, {"A", "1a021208 1a00", api.ErrForm},
		{"A", "2a0108", api.ErrForm}, {"A", "2a0112", api.ErrForm}, {"A", "2a021a01", api.ErrForm}, {"A", "2a03120108", api.ErrForm}, {"A", "2a03120108 2a00", api.ErrForm},
		{"A", "1a03120180", api.ErrForm}, {"Many", "7a00 7a0108", api.ErrForm}, {"K", "0a0108", api.OK}, {"A", "320108", api.OK}, {"A", "080a 0a0108", api.OK},
		{"A", "2a09 1a0108 0a00 22021208", api.OK},
		// How deep.
		{"Deep", deep, api.ErrLimit}, {"Deep", "0a08 0a06 0a04 0a02 0a00", api.OK},
		{"Deep", deep + "08", api.ErrLimit}, {"Deep", "00" + deep, api.ErrForm}, {"Deep", deep + "00", api.ErrLimit}, {"Deep", "0a0100" + deep, api.ErrForm},
		{"Deep", "320a 3208 3206 3204 3202 3200 3a00", api.ErrLimit}, {"Deep", "3208 3206 3204 3202 3200 3a00", api.OK},
		{"Deep", "1208 1206 1204 1202 1200", api.OK}, {"Deep", "120a 1208 1206 1204 1202 1200", api.ErrLimit},
		{"Deep", "0a06 0a04 0a02 2200", api.OK}, {"Deep", "0a08 0a06 0a04 0a02 2200", api.OK}, {"Deep", "0a0a 0a08 0a06 0a04 0a02 2200", api.ErrLimit},
		{"Deep", "1a00", api.OK}, {"Deep", "0a06 0a04 0a02 1a00", api.OK}, {"Deep", "0a08 0a06 0a04 0a02 1a00", api.ErrLimit}, // what is missing is as deep
		{"Deep", "0a0a 0a08 0a06 0a04 1a02 1200", api.ErrLimit}, {"Deep", "0a0a 0a08 0a06 0a04 1a02 0801", api.ErrLimit}, {"Deep", "0a09 0a07 0a05 0a03 1a01 08", api.ErrForm},
		{"Deep", "1a0a 1208 1a06 1204 0a02 0a00", api.ErrLimit}, {"Deep", "1a08 1206 1a04 1202 0a00", api.OK}, {"Deep", "1a06 1204 1a02 1200", api.OK},
		{"Deep", "1a0a 1208 1a06 1204 1a02 0801", api.ErrLimit}, {"Deep", "1a08 1206 1a04 1202 1a00", api.ErrLimit}, {"Deep", "1a08 1206 1a04 1202 2200", api.OK},
		{"Deep", "1a0a 1208 0a06 0a04 0a02 0a00 1a00", api.ErrLimit},
		{"Deep", "0a0b 0a09 0a07 0a05 0a03 0a01 00", api.ErrLimit}, {"Deep", "0a0b 0a09 0a07 0a05 0a03 2201 00", api.ErrLimit}, // too deep, ahead of what is in it
	} {
		m, err := code.Decode(types, c.name, raw(t, c.b))
		isErr(t, fmt.Sprintf("Decode of %s, %.60s", c.name, c.b), err, c.want)
		if (m == nil) != (c.want != api.OK) || m != nil && !code.Right(types, c.name, m) {
			t.Errorf("Decode of %s, %.60s: %s", c.name, c.b, told(m))
		}
	}
}

// P4: what is handed in is neither written nor kept, nor what stands behind its length; what comes out is fresh.
func TestFresh(t *testing.T) {
	types := linked(t, sample())
	whole := raw(t, "0805 1a03 120178 220401020304 2a0b 0a016b 120622020102 3801 2a00 3a0161 ff ff ff ff")
	b := whole[: len(whole)-4 : len(whole)]
	before := bytes.Clone(whole)
	m, err := code.Decode(types, "A", b)
	if err != nil || !bytes.Equal(whole, before) {
		t.Fatalf("%x, %v: %x was written", whole, err, before)
	}
	text := told(m)
	for i := range whole {
		whole[i] = 0x55
	}
	if told(m) != text {
		t.Errorf("%s hangs on what was handed in", told(m))
	}
	first, err := code.Encode(types, "A", m)
	if err != nil || told(m) != text {
		t.Fatalf("Encode of %s: %v, %s", text, err, told(m))
	}
	second, _ := code.Encode(types, "A", m)
	want := bytes.Clone(second)
	for i := range first[:cap(first)] {
		first[:cap(first)][i] = 0x55
	}
	if !bytes.Equal(second, want) || told(m) != text {
		t.Error("what Encode tells is shared")
	}
	again, _ := code.Decode(types, "A", want)
	spoil(t, m, map[*api.Msg]int{})
	if told(m) != text || told(again) != text {
		t.Errorf("%s: lists share memory", told(m))
	}
}

// spoil writes behind the length of each list of a message, and fails if a message stands in it twice.
func spoil(t *testing.T, m *api.Msg, seen map[*api.Msg]int) {
	t.Helper()
	if seen[m]++; seen[m] > 1 {
		t.Errorf("%s stands twice in one answer", told(m))
	}
	for i := range m.Fields {
		values := m.Fields[i].Values
		for _, v := range values {
			if v.Sub != nil {
				spoil(t, v.Sub, seen)
			}
		}
		behind := values[len(values):cap(values)]
		copy(behind, slices.Repeat([]api.Value{{Num: 99}}, len(behind)))
	}
	behind := m.Fields[len(m.Fields):cap(m.Fields)]
	copy(behind, slices.Repeat([]api.Part{{Number: 99}}, len(behind)))
}

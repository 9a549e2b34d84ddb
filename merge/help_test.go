package merge_test

import (
	"encoding/hex"
	"errors"
	"fmt"
	"strconv"
	"strings"
	"testing"

	"sealpress/api"
	"sealpress/check"
	"sealpress/code"
	"sealpress/parse"
)

// sample has the document's A, and types with one thing each.
func sample() string {
	return `syntax = "proto3"; enum E { V0 = 0; V1 = 1; V2 = -5; } message None { }
message A { int32 a = 1; oneof c { string b = 2; A d = 3; } repeated sint32 e = 4; map<string, A> f = 5; }
message One { bool b = 1; sint64 n = 2; fixed32 f = 4; In d = 3; string s = 5; bytes t = 6; E e = 7; message In { int32 x = 1; } }
message Many { repeated bool b = 1; repeated fixed64 f = 2; repeated string s = 3; repeated bytes t = 4; repeated E e = 5; repeated A a = 6; }
message Map { map<string, string> s = 1; map<int32, sint32> i = 2; map<uint64, bytes> u = 3; map<bool, A> b = 4; map<sfixed64, E> x = 5; }
message Two { oneof c { int32 a = 1; string b = 5; A m = 9; } int32 n = 3; oneof d { bool e = 4; Two g = 6; A h = 2; } }
message Deep { Deep one = 1; repeated Deep many = 2; map<int32, Deep> maps = 3; oneof c { Deep pick = 6; string s = 7; } int32 n = 5; }
`
}

// linked is what a text defines.
func linked(t testing.TB, s string) *check.Types {
	t.Helper()
	d, err := parse.Parse(s)
	if err != nil {
		t.Fatalf("Parse(%q): %v", s, err)
	}
	l, err := check.Link(d)
	if err != nil {
		t.Fatalf("Link of %q: %v", s, err)
	}
	return l
}

// isErr fails unless an error is this one, without a place.
func isErr(t *testing.T, what string, err error, want api.Errno) {
	t.Helper()
	var at *api.At
	if api.Tell(err) != want || errors.As(err, &at) {
		t.Errorf("%s: error %v, want %d", what, err, want)
	}
}

// raw is bytes by their digits, blanks left out.
func raw(t testing.TB, s string) []byte {
	t.Helper()
	b, err := hex.DecodeString(strings.ReplaceAll(s, " ", ""))
	if err != nil {
		t.Fatal(err)
	}
	return b
}

// read is the message that bytes are.
func read(t testing.TB, types *check.Types, name string, b []byte) *api.Msg {
	t.Helper()
	m, err := code.Decode(types, name, b)
	if err != nil {
		t.Fatalf("Decode of %s, %x: %v", name, b, err)
	}
	return m
}

// told is a message as text: {1=5 2="x" 3={} 4=-1 4=1 ~3a00}: fields, and Rest; an empty text is 0, too. What is no message that may be is told with all that it has, but not without end.
func told(m *api.Msg) string { return toldSoDeep(m, 1) }

func toldSoDeep(m *api.Msg, deep int) string {
	if m == nil {
		return "nil"
	}
	if deep > 9 {
		return "{..}"
	}
	var l []string
	for _, p := range m.Fields {
		if len(p.Values) == 0 {
			l = append(l, fmt.Sprint(p.Number, "=none"))
		}
		for _, v := range p.Values {
			l = append(l, fmt.Sprint(p.Number, "=", toldValue(v, deep)))
		}
	}
	if m.Rest != "" {
		l = append(l, "~"+hex.EncodeToString([]byte(m.Rest)))
	}
	return "{" + strings.Join(l, " ") + "}"
}

func toldValue(v api.Value, deep int) string {
	switch {
	case v.Num != 0 && (v.Text != "" || v.Sub != nil) || v.Text != "" && v.Sub != nil:
		return fmt.Sprintf("(%d %q %s)", int64(v.Num), v.Text, toldSoDeep(v.Sub, deep+1))
	case v.Sub != nil:
		return toldSoDeep(v.Sub, deep+1)
	case v.Text != "":
		return strconv.Quote(v.Text)
	}
	return strconv.FormatInt(int64(v.Num), 10)
}

// number and sub are a message's field with one value.
func number(field int, n uint64) api.Part {
	return api.Part{Number: field, Values: []api.Value{{Num: n}}}
}

func sub(field int, m *api.Msg) api.Part {
	return api.Part{Number: field, Values: []api.Value{{Sub: m}}}
}

func msg(parts ...api.Part) *api.Msg { return &api.Msg{Fields: parts} }

// places are where a message, those in it, and all elements of their lists lie, with what stands behind a list's length; a place that stands there twice is told, too.
func places(m *api.Msg) (all map[any]int, twice bool) {
	all = map[any]int{}
	var gather func(m *api.Msg)
	gather = func(m *api.Msg) {
		if m == nil {
			return
		}
		all[m]++
		parts := m.Fields[:cap(m.Fields)]
		for i := range parts {
			all[&parts[i]]++
		}
		for _, p := range m.Fields {
			values := p.Values[:cap(p.Values)]
			for i := range values {
				all[&values[i]]++
			}
			for _, v := range p.Values {
				gather(v.Sub)
			}
		}
	}
	gather(m)
	for _, n := range all {
		twice = twice || n > 1
	}
	return all, twice
}

// isFresh fails if what came out shares memory, in itself or with what was handed in.
func isFresh(t *testing.T, out *api.Msg, in ...*api.Msg) {
	t.Helper()
	own, twice := places(out)
	if twice {
		t.Errorf("%s shares memory in itself", told(out))
	}
	for _, m := range in {
		theirs, _ := places(m)
		for p := range own {
			if theirs[p] > 0 {
				t.Errorf("%s shares memory with %s", told(out), told(m))
				return
			}
		}
	}
}

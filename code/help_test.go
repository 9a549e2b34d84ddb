package code_test

import (
	"encoding/hex"
	"errors"
	"fmt"
	"strconv"
	"strings"
	"testing"

	"sealpress/api"
	"sealpress/check"
	"sealpress/parse"
)

// kindNames are the kinds' names, in the order of their numbers: the last two are an enum and a message.
func kindNames() []string {
	return []string{"bool", "int32", "int64", "uint32", "uint64", "sint32", "sint64", "fixed32", "fixed64", "sfixed32", "sfixed64", "string", "bytes", "E", "K"}
}

// sample has the document's A; of each kind a field: One's are one each, Many's are Many, Pick's are of a choice, Map's are maps of it, Key's are maps by it; each field's number is its kind's. Two choices stand in Two.
func sample() string {
	s := `syntax = "proto3"; enum E { V0 = 0; V1 = 1; V2 = -5; } message K { }
message A { int32 a = 1; oneof c { string b = 2; A d = 3; } repeated sint32 e = 4; map<string, A> f = 5; }
message Deep { Deep one = 1; repeated Deep many = 2; map<int32, Deep> maps = 3; map<int32, int32> plain = 4; int32 n = 5; oneof c { Deep pick = 6; string s = 7; } }
message Two { oneof c { int32 a = 1; string b = 2; } int32 n = 3; oneof d { bool e = 4; bytes f = 5; Two g = 6; } message In { int32 x = 536870911; } In in = 7; }
`
	for _, form := range []string{
		"message One { %s }", "message Many { %s }", "message Pick { oneof c { %s } }", "message Map { %s }", "message Key { %s }",
	} {
		fields := ""
		for i, kind := range kindNames() {
			switch form[8:11] {
			case "Man":
				kind = "repeated " + kind
			case "Map":
				kind = "map<int32, " + kind + ">"
			case "Key":
				if i >= api.Bytes-1 {
					continue
				}
				kind = "map<" + kind + ", uint32>"
			}
			fields += fmt.Sprintf("%s f%d = %d; ", kind, i+1, i+1)
		}
		s += fmt.Sprintf(form, fields) + "\n"
	}
	return s
}

// linked is what a text defines.
func linked(t testing.TB, s string) *check.Types {
	t.Helper()
	d, err := parse.Parse(s)
	if err != nil {
		t.Fatalf("Parse(%q): %v", s, err)
	}
	l, err := check.Link(d)
	if err != nil {
		t.Fatalf("Link of %q: %v", s, err)
	}
	return l
}

// isErr fails unless an error is this one, without a place.
func isErr(t *testing.T, what string, err error, want api.Errno) {
	t.Helper()
	var at *api.At
	if api.Tell(err) != want || errors.As(err, &at) {
		t.Errorf("%s: error %v, want %d", what, err, want)
	}
}

// raw is bytes by their digits, blanks left out.
func raw(t testing.TB, s string) []byte {
	t.Helper()
	b, err := hex.DecodeString(strings.ReplaceAll(s, " ", ""))
	if err != nil {
		t.Fatal(err)
	}
	return b
}

// told is a message as text: {1=5 2="x" 3={} 4=-1 4=1 ~3a00}: fields, and Rest. What is no message that may be is told with all that it has, but not without end.
func told(m *api.Msg) string { return toldSoDeep(m, 1) }

func toldSoDeep(m *api.Msg, deep int) string {
	if m == nil {
		return "nil"
	}
	if deep > 12 {
		return "{..}"
	}
	var l []string
	for _, p := range m.Fields {
		if len(p.Values) == 0 {
			l = append(l, fmt.Sprint(p.Number, "=none"))
		}
		for _, v := range p.Values {
			l = append(l, fmt.Sprint(p.Number, "=", toldValue(v, deep)))
		}
	}
	if m.Rest != "" {
		l = append(l, "~"+hex.EncodeToString([]byte(m.Rest)))
	}
	return "{" + strings.Join(l, " ") + "}"
}

func toldValue(v api.Value, deep int) string {
	switch {
	case v.Num != 0 && (v.Text != "" || v.Sub != nil) || v.Text != "" && v.Sub != nil:
		return fmt.Sprintf("(%d %q %s)", int64(v.Num), v.Text, toldSoDeep(v.Sub, deep+1))
	case v.Sub != nil:
		return toldSoDeep(v.Sub, deep+1)
	case v.Text != "":
		return strconv.Quote(v.Text)
	}
	return strconv.FormatInt(int64(v.Num), 10)
}

// msg is the message that a text tells so: of each field all values that follow each other.
func msg(t testing.TB, s string) *api.Msg {
	t.Helper()
	m, rest := msgAhead(t, s)
	if strings.TrimSpace(rest) != "" {
		t.Fatalf("%q is behind a message", rest)
	}
	return m
}

func msgAhead(t testing.TB, s string) (*api.Msg, string) {
	t.Helper()
	m := &api.Msg{}
	s = strings.TrimPrefix(s, "{")
	for {
		s = strings.TrimLeft(s, " ")
		if in, ok := strings.CutPrefix(s, "}"); ok {
			return m, in
		}
		if in, ok := strings.CutPrefix(s, "~"); ok {
			end := strings.IndexByte(in, '}')
			m.Rest, s = string(raw(t, in[:end])), in[end:]
			continue
		}
		number, behind, ok := strings.Cut(s, "=")
		n, err := strconv.Atoi(number)
		if !ok || err != nil {
			t.Fatalf("%q is no message", s)
		}
		var v api.Value
		v, s = valueAhead(t, behind)
		if last := len(m.Fields) - 1; last >= 0 && m.Fields[last].Number == n {
			m.Fields[last].Values = append(m.Fields[last].Values, v)
		} else {
			m.Fields = append(m.Fields, api.Part{Number: n, Values: []api.Value{v}})
		}
	}
}

func valueAhead(t testing.TB, s string) (v api.Value, rest string) {
	t.Helper()
	switch s[0] {
	case '{':
		v.Sub, rest = msgAhead(t, s)
		return v, rest
	case '"':
		q, err := strconv.QuotedPrefix(s)
		if err != nil {
			t.Fatalf("%q is no text", s)
		}
		v.Text, _ = strconv.Unquote(q)
		return v, s[len(q):]
	}
	end := strings.IndexAny(s, " }")
	if s[0] == '-' {
		n, err := strconv.ParseInt(s[:end], 10, 64)
		if err != nil {
			t.Fatal(err)
		}
		v.Num = uint64(n)
	} else {
		n, err := strconv.ParseUint(s[:end], 10, 64)
		if err != nil {
			t.Fatal(err)
		}
		v.Num = n
	}
	return v, s[end:]
}

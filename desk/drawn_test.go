package desk_test

import (
	"encoding/hex"
	"errors"
	"fmt"
	"math/rand"
	"regexp"
	"strings"
	"testing"

	"sealpress/api"
	"sealpress/check"
	"sealpress/code"
	"sealpress/desk"
	"sealpress/merge"
	"sealpress/parse"
)

// modelled is what a session tells, by a pattern of whole lines, and by errors that are handed on.
func modelled(text string) string {
	if len(text) > 20000 {
		return "error 4\n"
	}
	m := model{}
	if _, err := m.types(`syntax = "proto3";`); err != nil {
		panic(err)
	}
	var out strings.Builder
	for _, line := range strings.SplitAfter(text, "\n") {
		if line == "" && text != "" {
			continue // behind the last line feed
		}
		told, err := m.line(strings.TrimSuffix(line, "\n"))
		if err != nil {
			var number api.Errno
			errors.As(err, &number)
			told = fmt.Sprintf("error %d", number)
		}
		out.WriteString(told + "\n")
	}
	return out.String()
}

// model has what was defined last.
type model struct {
	def    api.TypeDef
	linked *check.Types
}

// Whole lines, their runs of blanks made one, and those at both ends too.
var (
	blanks = regexp.MustCompile(` +`)
	gaps   = regexp.MustCompile(`[ \n]+`)
	shapes = regexp.MustCompile(`(?s)^ (print|help|(fields|enum) [^ ]+|(read|canon) [^ ]+ [^ ]+|(merge|join) [^ ]+ [^ ]+ [^ ]+|types .*) $|^ types $`)
)

// line tells what one line does.
func (m *model) line(line string) (string, error) {
	line = blanks.ReplaceAllString(" "+line+" ", " ")
	if line == " " {
		return "ok", nil
	}
	if !shapes.MatchString(line) {
		return "", api.ErrForm
	}
	words := strings.Split(strings.Trim(line, " "), " ")
	switch words[0] {
	case "types":
		return m.types(line[len(" types "):])
	case "print":
		return strings.Trim(gaps.ReplaceAllString(parse.Print(m.def), " "), " "), nil
	case "fields":
		return m.fields(words[1])
	case "enum":
		return m.enum(words[1])
	case "read", "canon":
		b, err := bytesOf(words[2])
		if err != nil {
			return "", err
		}
		return m.read(words[0], words[1], b)
	case "join":
		a, err := bytesOf(words[2])
		b, other := bytesOf(words[3])
		if err != nil || other != nil {
			return "", api.ErrForm
		}
		return m.read("read", words[1], append(a, b...))
	case "merge":
		return m.merge(words[1], words[2:])
	}
	return "canon enum fields help join merge print read types", nil
}

func (m *model) types(text string) (string, error) {
	def, err := parse.Parse(text)
	if err != nil {
		return "", err
	}
	linked, err := check.Link(def)
	if err != nil {
		return "", err
	}
	*m = model{def, linked}
	return "types", nil
}

func (m *model) fields(name string) (string, error) {
	all, err := m.linked.Fields(name)
	s := "fields "
	for i, f := range all {
		if i > 0 {
			s += ", "
		}
		s += fmt.Sprintf("%d %s %d", f.Number, f.Name, f.Kind)
		if f.Kind == api.Enum || f.Kind == api.Message {
			s += " " + f.Of
		}
		if f.Key > 0 {
			s += fmt.Sprintf(" map %d", f.Key)
		}
		if f.Many {
			s += " many"
		}
		if f.Choice > "" {
			s += " of " + f.Choice
		}
	}
	return s, err
}

func (m *model) enum(name string) (string, error) {
	all, err := m.linked.Items(name)
	s := "enum"
	for i, item := range all {
		if i > 0 {
			s += ","
		}
		s += fmt.Sprintf(" %s %d", item.Name, item.Number)
	}
	return s, err
}

// read tells what bytes are, as text, or canon's bytes.
func (m *model) read(word, name string, b []byte) (string, error) {
	got, err := code.Decode(m.linked, name, b)
	if err != nil {
		return "", err
	}
	if word == "read" {
		return told(got), nil
	}
	b, err = code.Encode(m.linked, name, got)
	if len(b) == 0 {
		return "-", err
	}
	return hex.EncodeToString(b), err
}

func (m *model) merge(name string, words []string) (string, error) {
	var both [2]*api.Msg
	for i, word := range words {
		b, err := bytesOf(word)
		if err != nil {
			return "", err
		}
		if both[i], err = code.Decode(m.linked, name, b); err != nil {
			return "", err
		}
	}
	got, err := merge.Merge(m.linked, name, both[0], both[1])
	if err != nil {
		return "", err
	}
	return told(got), nil
}

func bytesOf(word string) ([]byte, error) {
	if word == "-" {
		return nil, nil
	}
	b, err := hex.DecodeString(word)
	if err != nil || strings.ContainsAny(word, "ABCDEF") {
		return nil, api.ErrForm
	}
	return b, nil
}

// told is a message as text.
func told(m *api.Msg) string {
	s := ""
	for _, p := range m.Fields {
		for _, v := range p.Values {
			s += fmt.Sprintf(" %d=", p.Number)
			if v.Sub != nil {
				s += told(v.Sub)
			} else if len(v.Text) > 0 {
				s += fmt.Sprintf("x%x", v.Text)
			} else {
				s += fmt.Sprintf("%d", v.Num)
			}
		}
	}
	if len(m.Rest) > 0 {
		s += fmt.Sprintf(" x%x", m.Rest)
	}
	return "{" + strings.TrimPrefix(s, " ") + "}"
}

// drawing draws lines.
type drawing struct{ *rand.Rand }

func (d drawing) of(l ...string) string { return l[d.Intn(len(l))] }

// text is a session.
func (d drawing) text() string {
	var s strings.Builder
	for range d.Intn(12) {
		words := strings.Fields(d.line())
		switch d.Intn(25) {
		case 0:
			words = words[:d.Intn(len(words)+1)]
		case 1:
			words = append(words, d.of("-", "A", "00", "x"))
		}
		s.WriteString(d.of("", "", " ", "  ") + strings.Join(words, d.of(" ", " ", " ", "   ")) + d.of("", "", " "))
		s.WriteString(d.of("\n", "\n", "\n", "\n\n"))
	}
	return strings.TrimSuffix(s.String(), d.of("", "\n"))
}

func (d drawing) line() string {
	name := d.of("A", "A", "A", "A.B", "C", "E", "A.F")
	switch d.Intn(9) {
	case 0:
		return d.of("help", "print", "print", "", "x", "ok", "Print", "\t", "help\r")
	case 1:
		return "fields " + name
	case 2:
		return "enum " + d.of("E", "E", "A.F", name)
	case 3:
		return "merge " + name + " " + d.bytes() + " " + d.bytes()
	case 4:
		return "join " + name + " " + d.bytes() + " " + d.bytes()
	case 5:
		return "canon " + name + " " + d.bytes()
	case 6:
		return "types " + d.types()
	}
	return "read " + name + " " + d.bytes()
}

// types are a text that mostly defines something.
func (d drawing) types() string {
	s := `syntax = "proto3"; enum E { V = 0; W = ` + d.of("1", "-7", "2147483647", "0") + "; } message A { "
	if d.Intn(15) == 0 {
		s = d.of("", "syntax", "message A { ")
	}
	for n := 1; n < 6; n++ {
		kind := d.of("int32", "sint64", "bool", "string", "bytes", "fixed32", "sfixed64", "E", "A", "B", "A.F")
		if d.Intn(40) == 0 {
			kind = d.of("Z", "oneof", ".A.B")
		}
		name := fmt.Sprint(" f", n, " = ", n, "; ")
		s += d.of("", kind+name, "repeated "+kind+name, "map<"+d.of("string", "int32", "bool")+", "+kind+">"+name, "oneof "+d.of("x", "y")+" { "+kind+name+"} ")
	}
	s += d.of("", "", "reserved 30 to 40; ") + "message B { " + d.of("", "A a = 1; ", "E e = 1; string s = 2; ") + "} enum F { X = 0; } } "
	return s + d.of("", "message C { }", "message C { A a = 3; }", "// message C { }", "message A { }", "$")
}

// bytes are pieces of few numbers, as a word.
func (d drawing) bytes() string {
	var b []byte
	var piece func(deep int) []byte
	piece = func(deep int) (b []byte) {
		n := byte(1 + d.Intn(6))
		switch d.Intn(6) {
		case 0, 1:
			return append([]byte{n << 3}, d.of("\x00", "\x01", "\x05", "\xff\x01", "\xff\xff\xff\xff\xff\xff\xff\xff\xff\x01")...)
		case 2:
			return append([]byte{n<<3 | 5}, 1, 2, 3, 4)
		case 3:
			return append([]byte{n<<3 | 1}, 1, 2, 3, 4, 5, 6, 7, 8)
		}
		in := []byte(d.of("", "a", "bc", "\x00\xff", "\x08\x01"))
		for range d.Intn(3) {
			if deep < 4 {
				in = append(in, piece(deep+1)...)
			}
		}
		in = in[:min(len(in), 127)]
		return append([]byte{n<<3 | 2, byte(len(in))}, in...)
	}
	for range d.Intn(5) {
		b = append(b, piece(0)...)
	}
	word := hex.EncodeToString(b)
	if d.Intn(30) == 0 {
		word = d.of("0", "0g", "AB", "x", "08", word+"0", strings.ToUpper(word))
	}
	if word == "" {
		return "-"
	}
	return word
}

// holds fails unless a session tells what the model does.
func holds(t *testing.T, text string) {
	t.Helper()
	if got, want := desk.Session(text), modelled(text); got != want {
		t.Errorf("Session(%q):\n%q, want\n%q", text, got, want)
	}
}

// 7.1, of drawn sessions.
func TestDrawn(t *testing.T) {
	d := drawing{rand.New(rand.NewSource(7))}
	right := 0
	for range 3000 {
		text := "types " + d.types() + "\n" + d.text()
		holds(t, text)
		right += strings.Count(desk.Session(text), "{")
	}
	if right < 3000 {
		t.Errorf("only %d messages were told", right)
	}
}

// FuzzSession: whatever the text is, it is answered as the model answers it.
func FuzzSession(f *testing.F) {
	f.Add(sample + "print\nfields A\nenum E\nread A 0805120178220201\ncanon A 2a00\nmerge A 1a00 0801\njoin A 08 05\nhelp\n")
	f.Add("\n \n\t\nhelp x\n")
	f.Fuzz(func(t *testing.T, text string) {
		holds(t, text)
		holds(t, sample+text)
	})
}

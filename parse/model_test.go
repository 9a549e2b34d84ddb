package parse_test

import (
	"math/rand"
	"strings"
	"testing"

	"sealpress/api"
	"sealpress/lex"
	"sealpress/parse"
	"sealpress/plain"
)

// grammar is the chapter's once more, as a table: of each name what it may be, of several the first one that fits the token.
// (in) and (out) stand for the beginning and the end of what is counted by itself; a ! is what may not stand first.
const grammar = `
TEXT     = syntax = "proto3" ; (in) TOPS End
TOPS     = ENUM TOPS | MESSAGE TOPS |
ENUM     = enum NAME { (in) ITEMS } (out)
ITEMS    = REST ITEMS |
REST     = NAME = SIGN N ;
SIGN     = - |
MESSAGE  = message DEEPNAME { (in) PARTS } (out)
PARTS    = MESSAGE PARTS | ENUM PARTS | RESERVED PARTS | ONEOF PARTS | FIELD PARTS |
RESERVED = reserved RANGE RANGES ;
RANGES   = , RANGE RANGES |
RANGE    = N TO
TO       = to N |
ONEOF    = oneof NAME { MEMBER MEMBERS }
MEMBERS  = MEMBER MEMBERS |
MEMBER   = !repeated TYPE REST
FIELD    = repeated TYPE REST | map < TYPE , TYPE > REST | TYPE REST
`

// rules is the table, each alternative as its symbols.
func rules() map[string][][]string {
	m := map[string][][]string{}
	for line := range strings.Lines(strings.TrimSpace(grammar)) {
		name, all, _ := strings.Cut(line, " = ")
		name = strings.TrimSpace(name)
		for _, one := range strings.Split(all, "|") {
			m[name] = append(m[name], strings.Fields(one))
		}
	}
	return m
}

// stands says whether a token may stand where a symbol without a rule asks for one.
func stands(symbol string, t lex.Token) bool {
	switch symbol {
	case "NAME", "DEEPNAME":
		return t.Kind == lex.Word && !strings.Contains(t.Text, ".")
	case "TYPE":
		return t.Kind == lex.Word
	case "N":
		return t.Kind == lex.Number
	case "End":
		return t.Kind == lex.End
	case `"proto3"`:
		return t.Kind == lex.Text && t.Text == "proto3"
	}
	return (t.Kind == lex.Word || t.Kind == lex.Mark) && t.Text == symbol
}

// begins says whether symbols may begin with a token.
func begins(m map[string][][]string, symbols []string, t lex.Token) bool {
	if len(symbols) == 0 {
		return false
	}
	if not, ok := strings.CutPrefix(symbols[0], "!"); ok {
		return !stands(not, t) && begins(m, symbols[1:], t)
	}
	alternatives, ok := m[symbols[0]]
	if !ok {
		return stands(symbols[0], t)
	}
	for _, a := range alternatives {
		if begins(m, a, t) {
			return true
		}
	}
	return false
}

// counts is how many stand already in what is counted by itself.
type counts struct{ items, fields, ranges int }

// tooMany says whether a symbol asks for one more than may be, and counts it.
func (c *counts) tooMany(symbol string, t lex.Token) bool {
	n := (*int)(nil)
	switch symbol {
	case "TOPS":
		if t.Kind != lex.End {
			n = &c.items
		}
	case "ITEMS", "PARTS":
		if !stands("}", t) {
			n = &c.items
		}
	case "FIELD", "MEMBER":
		n = &c.fields
	case "RANGE":
		n = &c.ranges
	}
	if n == nil {
		return false
	}
	*n++
	return *n > 60
}

// model tells a text's error, and its place (OK and -1: none).
func model(s string) (api.Errno, int) {
	tokens, err := lex.Split(s)
	if err != nil {
		return plain.Place(err)
	}
	m, stack, inside, at := rules(), []string{"TEXT"}, []counts{{}}, 0
	for len(stack) > 0 {
		t, symbol := tokens[min(at, len(tokens)-1)], stack[len(stack)-1]
		stack = stack[:len(stack)-1]
		c := &inside[len(inside)-1]
		alternatives, isRule := m[symbol]
		whole := symbol == "TOPS" || symbol == "ITEMS" || symbol == "PARTS"
		switch {
		case symbol == "(in)":
			inside = append(inside, counts{})
		case symbol == "(out)":
			inside = inside[:len(inside)-1]
		case strings.HasPrefix(symbol, "!"):
		case whole && c.tooMany(symbol, t):
			return api.ErrLimit, t.At
		case isRule:
			chosen := choose(m, alternatives, t)
			if chosen == nil {
				return api.ErrForm, t.At
			}
			if !whole && c.tooMany(symbol, t) {
				return api.ErrLimit, t.At
			}
			for i := range *chosen {
				stack = append(stack, (*chosen)[len(*chosen)-1-i])
			}
		case !stands(symbol, t):
			return api.ErrForm, t.At
		// The text as a whole is counted, too, and what stands outside of it.
		case strings.HasSuffix(symbol, "NAME") && len(t.Text) > 20, symbol == "DEEPNAME" && len(inside)-2 >= 6:
			return api.ErrLimit, t.At
		default:
			at++
		}
	}
	return api.OK, -1
}

// choose is the first alternative that may begin with a token, else the empty one, else nil.
func choose(m map[string][][]string, alternatives [][]string, t lex.Token) *[]string {
	for i, a := range alternatives {
		if len(a) == 0 || begins(m, a, t) {
			return &alternatives[i]
		}
	}
	return nil
}

// isAsModel fails unless Parse tells the model's error; what is right is printed so that it defines the same.
func isAsModel(t *testing.T, s string) {
	t.Helper()
	want, place := model(s)
	got, err := parse.Parse(s)
	if e, p := plain.Place(err); e != want || p != place {
		t.Fatalf("Parse(%q): error %d at %d, want %d at %d", s, e, p, want, place)
	}
	if err == nil {
		isBack(t, got)
	}
}

// isBack fails unless what is printed defines just what was defined.
func isBack(t *testing.T, def api.TypeDef) {
	t.Helper()
	text := parse.Print(def)
	back, err := parse.Parse(text)
	if err != nil || !plain.SameType(back, def) {
		t.Fatalf("Print of %+v: %s: defines %+v, %v", def, text, back, err)
	}
	if again := parse.Print(back); again != text {
		t.Fatalf("Print of %s: %s", text, again)
	}
}

// pieces is a text cut into its tokens, each as it stands, without the End.
func pieces(t *testing.T, s string) []string {
	tokens, err := lex.Split(s)
	if err != nil {
		t.Fatal(err)
	}
	var l []string
	for _, x := range tokens[:len(tokens)-1] {
		if x.Kind == lex.Text {
			x.Text = "\"" + x.Text + "\""
		}
		l = append(l, x.Text)
	}
	return l
}

// others are tokens to put in the place of one.
func others() []string {
	return []string{
		"{", "}", "=", ";", "<", ">", ",", "-", "7", "\"proto3\"", "\"\"", "a", "a.b", "aaaaaaaaaaaaaaaaaaaaa",
		"syntax", "enum", "message", "reserved", "to", "oneof", "repeated", "map", "a = 1 ;", "{ }", "message A { }", "@",
	}
}

// 3.1: of a text with one token left out, changed, put in or told twice, Parse tells what the table tells.
func TestOneTokenOff(t *testing.T) {
	l := pieces(t, sample)
	for i := range l {
		ahead, behind := strings.Join(l[:i], " ")+" ", " "+strings.Join(l[i+1:], " ")
		isAsModel(t, ahead+behind)
		isAsModel(t, ahead+l[i]+" "+l[i]+behind)
		for _, x := range others() {
			isAsModel(t, ahead+x+behind)
			isAsModel(t, ahead+x+" "+l[i]+behind)
		}
	}
}

// 3.1, 3.2, 3.3: drawn types, written anyhow, are read as they were drawn, and printed so that they define the same.
func TestDrawn(t *testing.T) {
	for seed := range int64(400) {
		d := drawing{rand.New(rand.NewSource(seed))}
		want, text := d.top()
		isAsModel(t, text)
		isParsed(t, text, want)
		l := pieces(t, text)
		for range 20 {
			isAsModel(t, d.off(l))
		}
	}
}

// drawing draws types, and texts that define them.
type drawing struct{ *rand.Rand }

// off is a text of these tokens, some of them changed.
func (d drawing) off(l []string) string {
	l = append([]string(nil), l...)
	all := others()
	for range 1 + d.Intn(2) {
		i, k := d.Intn(len(l)), d.Intn(len(l))
		switch d.Intn(4) {
		case 0:
			l[i] = all[d.Intn(len(all))]
		case 1:
			l[i], l[k] = l[k], l[i]
		case 2:
			l[i] = l[k]
		case 3:
			l[i] = ""
		}
	}
	return strings.Join(l, " ")
}

// gap is nothing, written somehow.
func (d drawing) gap() string {
	return [...]string{" ", "\n", "  \n ", " // { ; \" @\n", "//\n//\n", "\n\n"}[d.Intn(6)]
}

// text is tokens with gaps between.
func (d drawing) text(tokens ...string) string {
	var b strings.Builder
	for _, x := range tokens {
		b.WriteString(x + d.gap())
	}
	return b.String()
}

func (d drawing) name() string {
	return [...]string{"a", "B", "c_1", "map", "message", "to", "repeated", "_", "aaaaaaaaaaaaaaaaaaaa", "enum", "oneof"}[d.Intn(11)]
}

func (d drawing) kind() string {
	return [...]string{"int32", "string", "A", ".A.B", "a.b", "..", "to", "aaaaaaaaaaaaaaaaaaaaaaaaaaaaaaaa"}[d.Intn(8)]
}

// number is one, and its text.
func (d drawing) number() (int, string) {
	i := d.Intn(5)
	return [...]int{0, 1, 7, 536870911, 9999999999}[i], [...]string{"0", "01", "7", "536870911", "9999999999"}[i]
}

// rest is a name and a number, and their text.
func (d drawing) rest() (string, int, string) {
	name := d.name()
	n, s := d.number()
	if d.Intn(4) == 0 {
		return name, -n, d.text(name, "=", "-", s, ";")
	}
	return name, n, d.text(name, "=", s, ";")
}

func (d drawing) top() (t api.TypeDef, text string) {
	text = d.text("", "syntax", "=", "\"proto3\"", ";")
	for range d.Intn(5) {
		text += d.enumOrMessage(&t, 0)
	}
	return t, text
}

// enumOrMessage adds one of these.
func (d drawing) enumOrMessage(t *api.TypeDef, depth int) string {
	if d.Intn(3) == 0 || depth >= api.MaxDepth {
		e, text := d.enum()
		t.Enums = append(t.Enums, e)
		return text
	}
	inner, text := d.message(depth)
	t.Types = append(t.Types, inner)
	return text
}

func (d drawing) enum() (e api.EnumDef, text string) {
	e.Name = d.name()
	for range d.Intn(4) {
		name, n, s := d.rest()
		e.Items = append(e.Items, api.Item{Name: name, Number: n})
		text += s
	}
	return e, d.text("enum", e.Name, "{") + text + d.text("}")
}

func (d drawing) message(depth int) (t api.TypeDef, text string) {
	t.Name = d.name()
	for range d.Intn(7) {
		switch d.Intn(6) {
		case 0:
			text += d.enumOrMessage(&t, depth+1)
		case 1:
			text += d.reserved(&t)
		case 2:
			text += d.oneof(&t)
		default:
			text += d.field(&t)
		}
	}
	return t, d.text("message", t.Name, "{") + text + d.text("}")
}

func (d drawing) reserved(t *api.TypeDef) string {
	text, between := d.text("reserved"), ""
	for range 1 + d.Intn(3) {
		from, s := d.number()
		r := api.Range{From: from, To: from}
		text += d.text(between, s)
		if d.Intn(2) == 0 {
			r.To, s = d.number()
			text += d.text("to", s)
		}
		t.Reserved = append(t.Reserved, r)
		between = ","
	}
	return text + d.text(";")
}

func (d drawing) oneof(t *api.TypeDef) string {
	choice := [...]string{"c", "d", "map"}[d.Intn(3)]
	text := d.text("oneof", choice, "{")
	for range 1 + d.Intn(3) {
		kind := d.kind()
		name, n, s := d.rest()
		t.Fields = append(t.Fields, api.Field{Name: name, Number: n, Type: kind, Choice: choice})
		text += d.text(kind) + s
	}
	return text + d.text("}")
}

func (d drawing) field(t *api.TypeDef) (text string) {
	f := api.Field{Type: d.kind()}
	switch d.Intn(3) {
	case 0:
		f.Many = true
		text = d.text("repeated", f.Type)
	case 1:
		f.Key = d.kind()
		text = d.text("map", "<", f.Key, ",", f.Type, ">")
	default:
		text = d.text(f.Type)
	}
	name, n, s := d.rest()
	f.Name, f.Number = name, n
	t.Fields = append(t.Fields, f)
	return text + s
}

// P1, 3.1, 3.3: whatever the text is, Parse tells what the table tells, and what it defines is printed so that it defines the same.
func FuzzParse(f *testing.F) {
	for _, s := range []string{
		"", head, sample, message("oneof c { map a = 1; message b = 2; } repeated map d = -3; "), message("oneof c { repeated a = 1; } "),
		message(many(61, "int32 a# = #; ")), message("oneof c { " + many(61, "T a = 1; ") + "} "), enum(many(61, "V = 1; ")),
		message("reserved " + many(61, "#, ") + "5 to 4; "), head + many(61, "enum E { } "), head + many(8, "message M# { "),
		head + "message aaaaaaaaaaaaaaaaaaaaa { }", "syntax = \"proto3\" // x\n; \"",
	} {
		f.Add(s)
	}
	f.Fuzz(isAsModel)
}

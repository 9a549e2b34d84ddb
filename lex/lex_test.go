package lex_test

import (
	"errors"
	"regexp"
	"slices"
	"strconv"
	"strings"
	"testing"

	"sealpress/api"
	"sealpress/lex"
	"sealpress/plain"
)

const sample = "syntax = \"proto3\"; // a remark\nmessage A { map<string, A.B> f_1 = -12; }\n"

// word, number, text, mark and end are tokens, in short.
func word(s string, at int) lex.Token   { return lex.Token{Kind: lex.Word, Text: s, At: at} }
func number(s string, at int) lex.Token { return lex.Token{Kind: lex.Number, Text: s, At: at} }
func text(s string, at int) lex.Token   { return lex.Token{Kind: lex.Text, Text: s, At: at} }
func mark(s string, at int) lex.Token   { return lex.Token{Kind: lex.Mark, Text: s, At: at} }
func end(at int) lex.Token              { return lex.Token{Kind: lex.End, At: at} }

// isSplit fails unless a text has these tokens.
func isSplit(t *testing.T, s string, want ...lex.Token) {
	t.Helper()
	got, err := lex.Split(s)
	if err != nil || !slices.Equal(got, want) {
		t.Errorf("Split(%q): %v, %v, want %v", s, got, err, want)
	}
}

// isWrong fails unless a text has this error at this place, and no tokens.
func isWrong(t *testing.T, s string, want api.Errno, place int) {
	t.Helper()
	got, err := lex.Split(s)
	e, p := plain.Place(err)
	var at *api.At
	if e != want || p != place || got != nil || !errors.As(err, &at) || at.Err != want {
		t.Errorf("Split(%q): %v, error %v at %v, want %v at %v", s, got, e, p, want, place)
	}
}

// 2.1: the kinds are those numbers.
func TestKinds(t *testing.T) {
	if got, want := [5]int{lex.Word, lex.Number, lex.Text, lex.Mark, lex.End}, [5]int{1, 2, 3, 4, 5}; got != want {
		t.Errorf("kinds %v, want %v", got, want)
	}
}

// 2.1: Split of a text as they mostly are.
func TestSplitSample(t *testing.T) {
	isSplit(t, sample,
		word("syntax", 0), mark("=", 7), text("proto3", 9), mark(";", 17),
		word("message", 31), word("A", 39), mark("{", 41),
		word("map", 43), mark("<", 46), word("string", 47), mark(",", 53), word("A.B", 55), mark(">", 58),
		word("f_1", 60), mark("=", 64), mark("-", 66), number("12", 67), mark(";", 69),
		mark("}", 71), end(73))
}

// 2.1: blanks, line feeds and remarks are nothing; the End stands at the end.
func TestNothing(t *testing.T) {
	for _, s := range []string{"", " ", "\n", " \n \n ", "//", "// x", "//\n", "// x\n", " //x\n//y\n", "///", "// \" @ \t 12345678901 \xff", "//\r\x00\n", "//a//b"} {
		isSplit(t, s, end(len(s)))
	}
	isSplit(t, "a//b\nc", word("a", 0), word("c", 5), end(6))
	isSplit(t, "a// b c\n\n  d // e", word("a", 0), word("d", 11), end(17))
	isSplit(t, "1//2\n3", number("1", 0), number("3", 5), end(6))
	isSplit(t, "\"a\"//\"b\"", text("a", 0), end(8))
}

// 2.1: a Word is the longest run of letters and digits that begins with a letter.
func TestWords(t *testing.T) {
	for _, s := range []string{"a", "z", "A", "Z", "_", ".", "a0", "a9", "a.b_c9", ".A", "..", "_9.", "azAZ09_.", strings.Repeat("x", 100), "message", "e10"} {
		isSplit(t, s, word(s, 0), end(len(s)))
	}
	isSplit(t, "ab cd\nef", word("ab", 0), word("cd", 3), word("ef", 6), end(8))
	isSplit(t, "a-b", word("a", 0), mark("-", 1), word("b", 2), end(3))
	isSplit(t, "a\"b\"c", word("a", 0), text("b", 1), word("c", 4), end(5))
}

// 2.1: a Number is the longest run of digits, of at most ten.
func TestNumbers(t *testing.T) {
	for _, s := range []string{"0", "5", "9", "00", "0123456789", "1234567890", "9999999999", "0000000000"} {
		isSplit(t, s, number(s, 0), end(len(s)))
	}
	isSplit(t, "9a", number("9", 0), word("a", 1), end(2))
	isSplit(t, "1.5", number("1", 0), word(".5", 1), end(3))
	isSplit(t, "1_000", number("1", 0), word("_000", 1), end(5))
	isSplit(t, "-5", mark("-", 0), number("5", 1), end(2))
	isSplit(t, "1234567890 1234567890", number("1234567890", 0), number("1234567890", 11), end(21))
	isSplit(t, "1234567890a1", number("1234567890", 0), word("a1", 10), end(12))
	// Digits in a Word are no Number.
	isSplit(t, "a12345678901", word("a12345678901", 0), end(12))

	isWrong(t, "12345678901", api.ErrLimit, 0)
	isWrong(t, "00000000001", api.ErrLimit, 0)
	isWrong(t, " a = 12345678901;", api.ErrLimit, 5)
	isWrong(t, "-12345678901", api.ErrLimit, 1)
	isWrong(t, "12345678901x", api.ErrLimit, 0)
	isWrong(t, strings.Repeat("7", 5000), api.ErrLimit, 0)
}

// 2.1: a Text is what stands between two quotes of a line, at the first one.
func TestTexts(t *testing.T) {
	for _, s := range []string{"", "a", " ", "proto3", "a b", "//", "{}=;<>,-", "12345678901", "\\", "\t\r\x00", "\xff\xfe", "é"} {
		isSplit(t, "\""+s+"\"", text(s, 0), end(len(s)+2))
	}
	isSplit(t, " \"a\"\"\"\"b\"", text("a", 1), text("", 4), text("b", 6), end(9))
	isSplit(t, "\"a//b\" c", text("a//b", 0), word("c", 7), end(8))
	isSplit(t, "\"a\"\nb", text("a", 0), word("b", 4), end(5))

	isWrong(t, "\"", api.ErrForm, 0)
	isWrong(t, "\"a", api.ErrForm, 0)
	isWrong(t, "\"a\nb\"", api.ErrForm, 0)
	isWrong(t, "\"\n\"", api.ErrForm, 0)
	isWrong(t, "a \"b\" \"c", api.ErrForm, 6)
	isWrong(t, "a \"b\"\"", api.ErrForm, 5)
	isWrong(t, "\"\\\"\"", api.ErrForm, 3)
	isWrong(t, "\"a // b\n\"", api.ErrForm, 0)
}

// 2.1: Marks are single bytes.
func TestMarks(t *testing.T) {
	isSplit(t, "{}=;<>,-", mark("{", 0), mark("}", 1), mark("=", 2), mark(";", 3), mark("<", 4), mark(">", 5), mark(",", 6), mark("-", 7), end(8))
	isSplit(t, "==--", mark("=", 0), mark("=", 1), mark("-", 2), mark("-", 3), end(4))
}

// 2.1: of all else ErrForm, whatever byte it is.
func TestAllElse(t *testing.T) {
	const known = "ABCDEFGHIJKLMNOPQRSTUVWXYZabcdefghijklmnopqrstuvwxyz_.0123456789{}=;<>,- \n"
	for c := range 256 {
		s := string([]byte{byte(c)})
		if strings.Contains(known, s) {
			if _, err := lex.Split(s); err != nil {
				t.Errorf("Split(%q): %v", s, err)
			}
			continue
		}
		isWrong(t, s, api.ErrForm, 0)
		isWrong(t, "a "+s+" b", api.ErrForm, 2)
		isWrong(t, "a"+s, api.ErrForm, 1)
	}
	isWrong(t, "/", api.ErrForm, 0)
	isWrong(t, "/ /", api.ErrForm, 0)
	isWrong(t, "a /* b */", api.ErrForm, 2)
	isWrong(t, "a\r\n", api.ErrForm, 1)
	isWrong(t, "\u00a0", api.ErrForm, 0)
	isWrong(t, "aé", api.ErrForm, 1)
}

// 2.1: from the beginning on: of several errors the first one counts.
func TestFirstError(t *testing.T) {
	isWrong(t, "12345678901 @", api.ErrLimit, 0)
	isWrong(t, "@ 12345678901", api.ErrForm, 0)
	isWrong(t, "// @\n@ \"", api.ErrForm, 5)
	isWrong(t, "1234567890 \" 12345678901", api.ErrForm, 11)
}

// P4: what comes out is the caller's.
func TestFresh(t *testing.T) {
	first, _ := lex.Split(sample)
	clear(first[:cap(first)])
	second, _ := lex.Split(sample)
	if second[0] != word("syntax", 0) {
		t.Errorf("tokens are shared: %v", second)
	}
}

// 2.1: Value.
func TestValue(t *testing.T) {
	for s, want := range map[string]int{"0": 0, "1": 1, "9": 9, "10": 10, "007": 7, "536870911": 536870911, "4294967296": 4294967296, "1234567890": 1234567890, "9999999999": 9999999999, "0000000000": 0} {
		l, err := lex.Split(s)
		if err != nil || len(l) != 2 || lex.Value(l[0]) != want {
			t.Errorf("Value of %v: %v, want %d", s, l, want)
		}
	}
}

// P1, P2: what is no Number has no number.
func TestValueOfOthers(t *testing.T) {
	for _, x := range []lex.Token{
		{}, word("5", 0), text("5", 0), mark("-", 0), end(5), {Kind: 99, Text: "5"}, {Kind: -1, Text: "5"},
		number("", 0), number("-5", 0), number("+5", 0), number("x", 0), number("5x", 0), number("5 ", 0),
		number("12345678901", 0), number(strings.Repeat("9", 1000), 0), number("\xff", 0),
	} {
		if got := lex.Value(x); got != 0 {
			t.Errorf("Value(%v): %d, want 0", x, got)
		}
	}
}

// The chapter's sentences once more, in another form.
var (
	nothingForm = regexp.MustCompile(`^(?: |\n|//[^\n]*)*`)
	tokenForms  = [...]*regexp.Regexp{
		lex.Word:   regexp.MustCompile(`^([A-Za-z_.][A-Za-z_.0-9]*)`),
		lex.Number: regexp.MustCompile(`^([0-9]+)`),
		lex.Text:   regexp.MustCompile(`^"([^"\n]*)"`),
		lex.Mark:   regexp.MustCompile(`^([{}=;<>,\-])`),
	}
)

// bySentences is Split by these forms, the error taken apart.
func bySentences(s string) ([]lex.Token, api.Errno, int) {
	var l []lex.Token
	for at := 0; ; {
		at += len(nothingForm.FindString(s[at:]))
		if at == len(s) {
			return append(l, end(at)), api.OK, -1
		}
		kind, long, what := 0, 0, ""
		for k, form := range tokenForms {
			if form == nil {
				continue
			}
			if m := form.FindStringSubmatch(s[at:]); m != nil {
				kind, long, what = k, len(m[0]), m[1]
			}
		}
		if kind == 0 {
			return nil, api.ErrForm, at
		}
		if kind == lex.Number && long > 10 {
			return nil, api.ErrLimit, at
		}
		l = append(l, lex.Token{Kind: kind, Text: what, At: at})
		at += long
	}
}

// 2.1, P1: whatever the text is, Split tells what the sentences tell.
func FuzzSplit(f *testing.F) {
	for _, s := range []string{sample, "", "/", "a//b\n\"c\" 9a-5", "\"a\nb\"", "1234567890 12345678901", "é\xff@", "a.b_c9{}=;<>,-"} {
		f.Add(s)
	}
	f.Fuzz(func(t *testing.T, s string) {
		want, errno, place := bySentences(s)
		got, err := lex.Split(s)
		if e, p := plain.Place(err); e != errno || p != place || !slices.Equal(got, want) {
			t.Fatalf("Split(%q): %v, %v at %d, want %v, %v at %d", s, got, e, p, want, errno, place)
		}
		for _, x := range got {
			number, err := strconv.Atoi(x.Text)
			if x.Kind != lex.Number || err != nil {
				number = 0
			}
			if lex.Value(x) != number {
				t.Fatalf("Value(%v): %d, want %d", x, lex.Value(x), number)
			}
		}
	})
}

// 2.1: the same over the sample with some bytes changed, the same ones each time.
func TestSplitChanged(t *testing.T) {
	d := uint32(7)
	draw := func(most int) int {
		d = d*1664525 + 1013904223
		return int(d>>8) % most
	}
	const drawn = "{}=;<>,-a0 \n/\".@9_\t\xc3"
	for range 3000 {
		b := []byte(sample)
		for range draw(6) {
			b[draw(len(b))] = drawn[draw(len(drawn))]
		}
		s := string(b[draw(len(b)/2) : len(b)/2+draw(len(b)/2)])
		want, errno, place := bySentences(s)
		got, err := lex.Split(s)
		if e, p := plain.Place(err); e != errno || p != place || !slices.Equal(got, want) {
			t.Fatalf("Split(%q): %v, %v at %d, want %v, %v at %d", s, got, e, p, want, errno, place)
		}
	}
}

// Limits: a long text is split in steps that grow with it.
func TestLong(t *testing.T) {
	const many = 200_000
	l, err := lex.Split(strings.Repeat("//\n", many) + strings.Repeat("a ", many))
	if err != nil || len(l) != many+1 || l[many] != end(5*many) {
		t.Errorf("%d tokens, %v", len(l), err)
	}
	isWrong(t, strings.Repeat("\"\"", many)+"\"", api.ErrForm, 2*many)
}

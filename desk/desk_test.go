package desk_test

import (
	"fmt"
	"slices"
	"strings"
	"testing"

	"sealpress/api"
	"sealpress/desk"
)

const helped = "canon enum fields help join merge print read types"

// 7.1: a text that is too long is not answered line by line.
func TestTooLong(t *testing.T) {
	for _, piece := range []string{"x", " ", "\n", "help\n", sample} {
		longest := strings.Repeat(piece, api.MaxText)[:api.MaxText]
		if got := desk.Session(longest); got == lines("error 4") {
			t.Errorf("Session of %d bytes of %.20q: %q", len(longest), piece, got)
		}
		for _, more := range []string{"x", "\n", " ", strings.Repeat("help\n", 1000)} {
			isTold(t, longest+more, "error 4")
		}
	}
	isTold(t, strings.Repeat("x", api.MaxText), "error 3")
	isTold(t, strings.Repeat("x", api.MaxText-1)+"\n", "error 3")
	isTold(t, strings.Repeat("\n", api.MaxText), slices.Repeat([]string{"ok"}, api.MaxText)...)
}

// 7.1: lines are cut at line feeds, one of which at the end is left out.
func TestLines(t *testing.T) {
	for _, c := range []struct{ text, want string }{
		{"", "ok"},
		{"\n", "ok"},
		{"\n\n", "ok,ok"},
		{"\n\n\n", "ok,ok,ok"},
		{"help", "H"},
		{"help\n", "H"},
		{"help\n\n", "H,ok"},
		{"\nhelp", "ok,H"},
		{"\nhelp\n", "ok,H"},
		{"help\nhelp", "H,H"},
		{"help\n\nhelp\n", "H,ok,H"},
		{"help\nx\nhelp", "H,error 3,H"},
		{"help\r\nhelp", "error 3,H"},
		{"help\\nhelp", "error 3"},
		{" \n", "ok"},
		{"\n ", "ok,ok"},
	} {
		isTold(t, c.text, strings.Split(strings.ReplaceAll(c.want, "H", helped), ",")...)
	}
}

// 7.1: words have blanks between, and at both ends; nothing else is a blank.
func TestWords(t *testing.T) {
	for _, line := range []string{" ", "    "} {
		isTold(t, line, "ok")
	}
	for _, line := range []string{"help", " help", "help ", "   help   "} {
		isTold(t, line, helped)
	}
	for _, line := range []string{"read One 0801", "read  One 0801", "  read One   0801  "} {
		isAnswered(t, line, "{1=1}")
	}
	for _, blank := range []string{"\t", "\r", "\v", "\f", "\x00", "\x85", "\xa0", "\u0085", "\u00a0", "\u2003", "\u3000", "\xff"} {
		isTold(t, blank, "error 3")
		isTold(t, "help"+blank, "error 3")
		isTold(t, blank+"help", "error 3")
		isAnswered(t, "fields"+blank+"None", "error 3")
		isAnswered(t, "fields None"+blank, "error 7")
	}
}

// 7.1: ErrForm, unless the first word is one of those, to the letter.
func TestFirstWord(t *testing.T) {
	for _, line := range []string{
		"x", "ok", "error", "error 4", "Help", "HELP", "hel", "helpp", "type", "typess", "field", "enums",
		"syntax", "message A { }", "-", "00", "help,", "\"help\"", "//", "// help", "x help", "\xffhelp",
	} {
		isTold(t, line, "error 3")
		isAnswered(t, line, "error 3")
	}
}

// 7.1: ErrForm, unless just so many words stand behind it: that is asked ahead of what they are.
func TestHowManyWords(t *testing.T) {
	for _, line := range []string{"print", "help", "fields None", "enum E", "read One 0801", "canon One 0801", "merge One 0801 1002", "join One 0801 1002"} {
		if got := desk.Session(sample + line); strings.Contains(got, "error") {
			t.Errorf("%q: %q", line, got)
		}
		words := strings.Fields(line)
		for many := 1; many < len(words); many++ {
			isAnswered(t, strings.Join(words[:many], " "), "error 3")
		}
		for _, more := range []string{" None", " -", " 0801", " x y", " //", " \t"} {
			isAnswered(t, line+more, "error 3")
		}
		for many := range 6 {
			if many != len(words)-1 {
				isAnswered(t, words[0]+strings.Repeat(" Z", many), "error 3")
				isAnswered(t, words[0]+strings.Repeat(" -", many), "error 3")
			}
		}
	}
}

// 7.1: help tells all words, whatever was defined.
func TestHelp(t *testing.T) {
	isTold(t, "help", helped)
	isAnswered(t, "help", helped)
	isTold(t, "types x\nhelp\nhelp", "error 3", helped, helped)
}

// 7.1: there are the types of the shortest text at first.
func TestAtFirst(t *testing.T) {
	isTold(t, "print\nfields A\nenum E\nread A -\ncanon A -\nmerge A - -\njoin A - -",
		`syntax = "proto3";`, "error 7", "error 7", "error 7", "error 7", "error 7", "error 7")
	isTold(t, "print\ntypes "+head+"\nprint", `syntax = "proto3";`, "types", `syntax = "proto3";`)
}

// P4: what a session answers hangs on its text alone.
func TestSessionsByThemselves(t *testing.T) {
	first := desk.Session(sample + "print\nfields A")
	isTold(t, "fields A\nprint", "error 7", `syntax = "proto3";`)
	if again := desk.Session(sample + "print\nfields A"); again != first {
		t.Errorf("%q, then %q", first, again)
	}
}

// 7.1: each error is answered with its number, and the lines behind it are answered as if it were not there.
func TestErrors(t *testing.T) {
	for _, c := range []struct {
		line string
		want api.Errno
	}{
		{"types", api.ErrForm},
		{"types " + head + "message A { int32 a = 12345678901; }", api.ErrLimit},
		{"types " + head + "message A { A a = 0; }", api.ErrRange},
		{"types " + head + "message A { B b = 1; }", api.ErrName},
		{"fields Z", api.ErrMissing},
		{"types " + head + "enum E { }", api.ErrNone},
		{"types " + head + "enum E { A = 0; A = 1; }", api.ErrTwice},
		{"types " + head + "enum E { A = 1; }", api.ErrOrder},
		{"types " + head + "message A { map<A, A> a = 1; }", api.ErrArg},
		{"types " + head + "message A { reserved 1; A a = 1; }", api.ErrFalse},
		{"read A 0801ff", api.ErrForm},
		{"read A " + strings.Repeat("0801", api.MaxBytes/2+1), api.ErrLimit},
	} {
		wrong := fmt.Sprint("error ", int(c.want))
		isAnswered(t, c.line, wrong)
		isTold(t, sample+c.line+"\nread A 0805\n"+c.line+"\nenum E\n", "types", wrong, "{1=5}", wrong, "enum V0 0, V1 1, V2 -5")
	}
}

package desk_test

import (
	"strings"
	"testing"

	"sealpress/desk"
)

// head is what each text that defines something begins with.
const head = `syntax = "proto3"; `

// sample has the document's A, and types with one thing each.
const sample = "types " + head +
	`enum E { V0 = 0; V1 = 1; V2 = -5; } message None { }` +
	`message A { int32 a = 1; oneof c { string b = 2; A d = 3; } repeated sint32 e = 4; map<string, A> f = 5; }` +
	`message One { bool b = 1; int64 i = 2; uint64 u = 3; E e = 4; string s = 5; bytes t = 6; }` +
	`message Many { repeated string s = 2; repeated int32 n = 1; repeated None m = 3; }` +
	`message Map { map<int32, sint32> i = 1; map<bool, None> b = 2; }` +
	`message Wide { repeated int32 n = 536870911; enum In { I = 0; } } message In { In i = 1; }` +
	"\n"

// lines is a session's text, of its lines.
func lines(l ...string) string { return strings.Join(l, "\n") + "\n" }

// isTold fails unless a session tells these lines.
func isTold(t *testing.T, text string, want ...string) {
	t.Helper()
	if got := desk.Session(text); got != lines(want...) {
		t.Errorf("Session(%.300q):\n%.2000q, want\n%.2000q", text, got, lines(want...))
	}
}

// isAnswered fails unless a line is answered so, with the types of sample.
func isAnswered(t *testing.T, line, want string) {
	t.Helper()
	isTold(t, sample+line, "types", want)
}

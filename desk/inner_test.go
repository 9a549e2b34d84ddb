package desk

import "testing"

// Lines may be left: then no other one is told.
func TestLinesLeft(t *testing.T) {
	var told []string
	for line := range lines("a\nb\nc") {
		told = append(told, line)
		if line == "b" {
			break
		}
	}
	if len(told) != 2 {
		t.Errorf("%q", told)
	}
}

// A fault of the program is none of the line's errors.
func TestFault(t *testing.T) {
	defer func() {
		if thrown := recover(); thrown != "fault" {
			t.Errorf("thrown: %v", thrown)
		}
	}()
	acts := map[string]act{"x": func([]string) string { panic("fault") }}
	t.Errorf("answered: %q", answer(acts, "x"))
}

package many_test

import (
	"errors"
	"fmt"
	"math"
	"runtime"
	"slices"
	"strings"
	"sync"
	"testing"
	"time"

	"sealpress/api"
	"sealpress/desk"
	"sealpress/many"
)

// sessions are so many texts, each of which is answered in another way, some after more work than others.
func sessions(many int) []string {
	l := make([]string, many)
	for i := range l {
		l[i] = fmt.Sprintf("types syntax = \"proto3\"; message T%d { repeated int32 a = %d; }\n", i, i+1) +
			strings.Repeat("print\n", i*7%50) +
			fmt.Sprintf("fields T%d\nfields T%d\nread T%d 08%02x\n", i, i+1, i, i)
	}
	return l
}

// answers are the sessions one by one.
func answers(texts []string) []string {
	var l []string
	for _, text := range texts {
		l = append(l, desk.Session(text))
	}
	return l
}

// isRight fails unless All tells of texts what each is answered.
func isRight(t *testing.T, texts []string, workers int) {
	t.Helper()
	got, err := many.All(texts, workers)
	if err != nil || !slices.Equal(got, answers(texts)) {
		t.Errorf("All of %d texts, by %d: %.300q, %v", len(texts), workers, got, err)
	}
}

// isLimit fails unless All tells ErrLimit, without a place, and nothing else.
func isLimit(t *testing.T, texts []string, workers int) {
	t.Helper()
	got, err := many.All(texts, workers)
	var at *api.At
	if api.Tell(err) != api.ErrLimit || errors.As(err, &at) || got != nil {
		t.Errorf("All of %d texts, by %d: %.300q, %v", len(texts), workers, got, err)
	}
}

// 8.1: each text is answered as Session does, in order; however many workers there are makes no difference.
func TestAll(t *testing.T) {
	for workers := 1; workers <= 16; workers++ {
		for _, many := range []int{0, 1, 2, 3, 15, 16, 17, 49, 50} {
			isRight(t, sessions(many), workers)
		}
		isRight(t, nil, workers)
		isRight(t, []string{}, workers)
		isRight(t, []string{"", "\n", "help", "x", "", strings.Repeat("x", api.MaxText+1), "help", "print"}, workers)
	}
	got, err := many.All([]string{"help", "", "types"}, 2)
	if want := []string{"canon enum fields help join merge print read types\n", "ok\n", "error 3\n"}; err != nil || !slices.Equal(got, want) {
		t.Errorf("%q, %v, want %q", got, err, want)
	}
}

// 8.1: what one text defines another one has not, though the same worker answers it.
func TestTextsByThemselves(t *testing.T) {
	for workers := 1; workers <= 16; workers++ {
		var texts []string
		for range 25 {
			texts = append(texts, "types syntax = \"proto3\"; message A { }\nfields A", "fields A\nprint")
		}
		got, err := many.All(texts, workers)
		if err != nil {
			t.Fatal(err)
		}
		for i, s := range got {
			if want := []string{"types\nfields \n", "error 7\nsyntax = \"proto3\";\n"}[i%2]; s != want {
				t.Errorf("by %d: text %d: %q, want %q", workers, i, s, want)
			}
		}
	}
}

// 8.1: ErrLimit: too many texts, or not so many workers.
func TestLimit(t *testing.T) {
	for _, workers := range []int{0, -1, 17, 18, 100, math.MinInt, math.MaxInt, 1 << 32, 1<<32 + 1, -16} {
		isLimit(t, nil, workers)
		isLimit(t, sessions(1), workers)
		isLimit(t, sessions(50), workers)
		isLimit(t, sessions(51), workers)
	}
	for workers := 1; workers <= 16; workers++ {
		isLimit(t, sessions(51), workers)
		isLimit(t, make([]string, 1000), workers)
	}
}

// P4: the texts are not written into, nor is what stands behind them, and what comes out is the caller's.
func TestFresh(t *testing.T) {
	room := sessions(10)
	texts := room[:5]
	before := slices.Clone(room)
	first, err := many.All(texts, 3)
	if err != nil || !slices.Equal(room, before) {
		t.Fatalf("%v; the texts are %q", err, room)
	}
	want := slices.Clone(first)
	for i := range first {
		first[i] = ""
	}
	again, err := many.All(texts, 3)
	if err != nil || !slices.Equal(again, want) || !slices.Equal(room, before) {
		t.Errorf("%q, %v, want %q", again, err, want)
	}
}

// Calls at the same time have nothing to do with each other.
func TestAtTheSameTime(t *testing.T) {
	texts := sessions(20)
	want := answers(texts)
	var all sync.WaitGroup
	for n := range 12 {
		all.Go(func() {
			part := texts[n:]
			if got, err := many.All(part, 1+n); err != nil || !slices.Equal(got, want[n:]) {
				t.Errorf("call %d: %.300q, %v", n, got, err)
			}
		})
	}
	all.Wait()
}

// No worker is left when All answers, with an error or without.
func TestNoneLeft(t *testing.T) {
	before := runtime.NumGoroutine()
	for range 20 {
		for _, workers := range []int{0, 1, 16, 17} {
			many.All(sessions(3), workers)
			many.All(nil, workers)
			many.All(make([]string, 51), workers)
		}
	}
	// What a worker does last is to say that it has done: it may end a little later.
	for range 100 {
		if runtime.NumGoroutine() <= before {
			return
		}
		time.Sleep(10 * time.Millisecond)
	}
	t.Errorf("%d at first, %d at last", before, runtime.NumGoroutine())
}

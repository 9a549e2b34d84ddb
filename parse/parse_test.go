package parse_test

import (
	"errors"
	"reflect"
	"slices"
	"strconv"
	"strings"
	"testing"

	"sealpress/api"
	"sealpress/parse"
	"sealpress/plain"
)

// head is what each text begins with.
const head = "syntax = \"proto3\"; "

// sample has one of each thing at least.
const sample = `syntax = "proto3"; // the head
enum E { V0 = 0; V1 = -5; }
message A {
  int32 a = 1;
  oneof c { string b = 2; A d = 3; }
  reserved 7, 9 to 12;
  repeated sint32 e = 4;
  message B { enum F { } .A.B g = 1; }
  map<string, A.B> f = 5;
  enum G { X = 0; }
  reserved 20 to 20;
}
message C { }
`

// sampleType is what it defines.
func sampleType() api.TypeDef {
	return api.TypeDef{
		Enums: []api.EnumDef{{Name: "E", Items: []api.Item{{Name: "V0"}, {Name: "V1", Number: -5}}}},
		Types: []api.TypeDef{
			{
				Name:     "A",
				Reserved: []api.Range{{From: 7, To: 7}, {From: 9, To: 12}, {From: 20, To: 20}},
				Enums:    []api.EnumDef{{Name: "G", Items: []api.Item{{Name: "X"}}}},
				Types: []api.TypeDef{{
					Name:   "B",
					Enums:  []api.EnumDef{{Name: "F"}},
					Fields: []api.Field{{Name: "g", Number: 1, Type: ".A.B"}},
				}},
				Fields: []api.Field{
					{Name: "a", Number: 1, Type: "int32"},
					{Name: "b", Number: 2, Type: "string", Choice: "c"},
					{Name: "d", Number: 3, Type: "A", Choice: "c"},
					{Name: "e", Number: 4, Type: "sint32", Many: true},
					{Name: "f", Number: 5, Type: "A.B", Key: "string"},
				},
			},
			{Name: "C"},
		},
	}
}

// isParsed fails unless a text defines that.
func isParsed(t *testing.T, s string, want api.TypeDef) {
	t.Helper()
	got, err := parse.Parse(s)
	if err != nil || !plain.SameType(got, want) {
		t.Errorf("Parse(%q): %+v, %v, want %+v", s, got, err, want)
	}
}

// isWrong fails unless a text, without the ^ that stands in it, has this error at that place, and defines nothing.
func isWrong(t *testing.T, marked string, want api.Errno) {
	t.Helper()
	place := strings.Index(marked, "^")
	s := strings.Replace(marked, "^", "", 1)
	if place < 0 || strings.Contains(s, "^") {
		t.Fatalf("%q has not just one ^", marked)
	}
	got, err := parse.Parse(s)
	e, p := plain.Place(err)
	var at *api.At
	if e != want || p != place || !errors.As(err, &at) || at.Err != want {
		t.Errorf("Parse(%q): error %d at %d, want %d at %d", s, e, p, want, place)
	}
	if !reflect.DeepEqual(got, api.TypeDef{}) {
		t.Errorf("Parse(%q): %+v beside an error", s, got)
	}
}

// isRight fails if a text has an error.
func isRight(t *testing.T, s string) api.TypeDef {
	t.Helper()
	got, err := parse.Parse(s)
	if err != nil {
		e, p := plain.Place(err)
		t.Errorf("Parse(%q): error %d at %d", s, e, p)
	}
	return got
}

// message is the text of a type A in which that stands, and enum of an enum E.
func message(inside string) string { return head + "message A { " + inside + "}" }
func enum(inside string) string    { return head + "enum E { " + inside + "}" }

// inA is what such a text defines.
func inA(t api.TypeDef) api.TypeDef {
	t.Name = "A"
	return api.TypeDef{Types: []api.TypeDef{t}}
}

// many is a text so many times, with each # in it a number that rises from 1 on.
func many(n int, s string) string {
	var b strings.Builder
	for i := range n {
		b.WriteString(strings.ReplaceAll(s, "#", strconv.Itoa(i+1)))
	}
	return b.String()
}

// 3.2: of each thing all that it has.
func TestSample(t *testing.T) {
	isParsed(t, sample, sampleType())
}

// 3.1, 3.2: a text that defines nothing.
func TestNothing(t *testing.T) {
	for _, s := range []string{`syntax="proto3";`, head, "// x\nsyntax//y\n=\n\"proto3\"\n;// z"} {
		isParsed(t, s, api.TypeDef{})
	}
}

// 3.2: in order, whatever stands between.
func TestOrder(t *testing.T) {
	isParsed(t, head+"message B { } enum Z { } message A { } enum Y { } message B { }", api.TypeDef{
		Enums: []api.EnumDef{{Name: "Z"}, {Name: "Y"}},
		Types: []api.TypeDef{{Name: "B"}, {Name: "A"}, {Name: "B"}},
	})
	isParsed(t, message("B z = 9; reserved 5; enum Z { } oneof c { B y = 8; } message N { } B x = 7; enum Y { } oneof c { B w = 9; B v = 1; } reserved 4 to 2, 5; message M { } "), inA(api.TypeDef{
		Reserved: []api.Range{{From: 5, To: 5}, {From: 4, To: 2}, {From: 5, To: 5}},
		Enums:    []api.EnumDef{{Name: "Z"}, {Name: "Y"}},
		Types:    []api.TypeDef{{Name: "N"}, {Name: "M"}},
		Fields: []api.Field{
			{Name: "z", Number: 9, Type: "B"},
			{Name: "y", Number: 8, Type: "B", Choice: "c"},
			{Name: "x", Number: 7, Type: "B"},
			{Name: "w", Number: 9, Type: "B", Choice: "c"},
			{Name: "v", Number: 1, Type: "B", Choice: "c"},
		},
	}))
	isParsed(t, enum("B = 2; A = 1; B = 2; "), api.TypeDef{Enums: []api.EnumDef{{Name: "E", Items: []api.Item{{Name: "B", Number: 2}, {Name: "A", Number: 1}, {Name: "B", Number: 2}}}}})
}

// 3.2: numbers, whether they may be so or not (4.1 asks that).
func TestNumbers(t *testing.T) {
	for s, want := range map[string]int{"0": 0, "-0": 0, "1": 1, "-1": -1, "- 1": -1, "007": 7, "-007": -7, "536870911": 536870911, "9999999999": 9999999999, "-9999999999": -9999999999} {
		isParsed(t, enum("V = "+s+"; "), api.TypeDef{Enums: []api.EnumDef{{Name: "E", Items: []api.Item{{Name: "V", Number: want}}}}})
		f := api.Field{Name: "f", Number: want, Type: "T"}
		isParsed(t, message("T f = "+s+"; "), inA(api.TypeDef{Fields: []api.Field{f}}))
		f.Choice = "c"
		isParsed(t, message("oneof c { T f = "+s+"; } "), inA(api.TypeDef{Fields: []api.Field{f}}))
		f.Choice, f.Key = "", "K"
		isParsed(t, message("map<K, T> f = "+s+"; "), inA(api.TypeDef{Fields: []api.Field{f}}))
		f.Key, f.Many = "", true
		isParsed(t, message("repeated T f = "+s+"; "), inA(api.TypeDef{Fields: []api.Field{f}}))
		if strings.HasPrefix(s, "-") {
			isWrong(t, message("reserved ^"+s+"; "), api.ErrForm)
			isWrong(t, message("reserved 1 to ^"+s+"; "), api.ErrForm)
			continue
		}
		isParsed(t, message("reserved "+s+", 3 to "+s+"; "), inA(api.TypeDef{Reserved: []api.Range{{From: want, To: want}, {From: 3, To: want}}}))
	}
}

// words are those that mean something somewhere.
func words() []string {
	return []string{"syntax", "message", "enum", "reserved", "oneof", "repeated", "map", "to", "proto3", "int32"}
}

// 3.1: where a NAME stands, or a TYPE that does not begin what stands there, each of these words is one.
func TestWordsAsNames(t *testing.T) {
	for _, w := range words() {
		isParsed(t, head+"enum "+w+" { "+w+" = 1; }", api.TypeDef{Enums: []api.EnumDef{{Name: w, Items: []api.Item{{Name: w, Number: 1}}}}})
		isParsed(t, head+"message "+w+" { int32 "+w+" = 1; repeated "+w+" a = 2; map<"+w+", "+w+"> b = 3; oneof "+w+" { int32 "+w+" = 4; } enum "+w+" { } }", api.TypeDef{Types: []api.TypeDef{{
			Name:  w,
			Enums: []api.EnumDef{{Name: w}},
			Fields: []api.Field{
				{Name: w, Number: 1, Type: "int32"},
				{Name: "a", Number: 2, Type: w, Many: true},
				{Name: "b", Number: 3, Type: w, Key: w},
				{Name: w, Number: 4, Type: "int32", Choice: w},
			},
		}}})
	}
}

// 3.1: what begins with one of the words is that; in a ONEOF all but repeated may be a TYPE.
func TestWordsAsBeginnings(t *testing.T) {
	for _, w := range words() {
		switch w {
		case "message", "enum", "oneof":
			isWrong(t, message(w+" a ^= 1; "), api.ErrForm)
		case "reserved", "map":
			isWrong(t, message(w+" ^a = 1; "), api.ErrForm)
		case "repeated":
			isWrong(t, message(w+" a ^= 1; "), api.ErrForm)
		default:
			isParsed(t, message(w+" a = 1; "), inA(api.TypeDef{Fields: []api.Field{{Name: "a", Number: 1, Type: w}}}))
		}
		if w == "repeated" {
			isWrong(t, message("oneof c { ^repeated a = 1; } "), api.ErrForm)
			continue
		}
		isParsed(t, message("oneof c { "+w+" a = 1; "+w+" b = 2; } "), inA(api.TypeDef{Fields: []api.Field{{Name: "a", Number: 1, Type: w, Choice: "c"}, {Name: "b", Number: 2, Type: w, Choice: "c"}}}))
	}
	isWrong(t, message("oneof c { int32 a = 1; ^repeated int32 b = 2; } "), api.ErrForm)
	isWrong(t, message("oneof c { map^<int32, int32> b = 2; } "), api.ErrForm)
	isWrong(t, message("oneof c { message M ^{ } } "), api.ErrForm)
	isWrong(t, message("oneof c { reserved ^2; } "), api.ErrForm)
	isWrong(t, message("repeated map^<int32, int32> b = 2; "), api.ErrForm)
}

// 3.1: a NAME has no point, a TYPE may.
func TestPoints(t *testing.T) {
	for _, w := range []string{".", "..", ".a", "a.", "a.b", ".a.b.c"} {
		isWrong(t, head+"enum ^"+w+" { }", api.ErrForm)
		isWrong(t, head+"message ^"+w+" { }", api.ErrForm)
		isWrong(t, enum("^"+w+" = 0; "), api.ErrForm)
		isWrong(t, message("int32 ^"+w+" = 1; "), api.ErrForm)
		isWrong(t, message("oneof ^"+w+" { "), api.ErrForm)
		isWrong(t, message("oneof c { int32 ^"+w+" = 1; } "), api.ErrForm)
		isWrong(t, message("map<int32, int32> ^"+w+" = 1; "), api.ErrForm)
		got := isRight(t, message(w+" a = 1; repeated "+w+" b = 2; map<"+w+", "+w+"> c = 3; oneof o { "+w+" d = 4; } "))
		for _, f := range got.Types[0].Fields {
			if f.Type != w || f.Key != "" && f.Key != w {
				t.Errorf("TYPE %q: %+v", w, f)
			}
		}
	}
}

// 3.1: ErrForm, at the first token that may not stand where it does: in a text's head, and at the top.
func TestFormTop(t *testing.T) {
	for _, s := range []string{
		"^", " ^", "^;", "^message A { }", "^syntaxx = \"proto3\";", "^Syntax = \"proto3\";", "^\"syntax\" = \"proto3\";",
		"syntax^", "syntax ^\"proto3\";", "syntax =^", "syntax = ^proto3;", "syntax = ^\"proto2\";", "syntax = ^\"proto3 \";",
		"syntax = ^\"\";", "syntax = \"proto3\"^", "syntax = \"proto3\" ^message A { }",
	} {
		isWrong(t, s, api.ErrForm)
	}
	for _, s := range []string{
		"^;", "^}", "^{", "^syntax = \"proto3\";", "^int32 a = 1;", "^reserved 1;", "^oneof c { }", "^repeated int32 a = 1;",
		"^\"message\" A { }", "^1", "^Enum A { }", "message A { } ^}", "message A { }^; message B { }", "enum A { }^;",
	} {
		isWrong(t, head+s, api.ErrForm)
	}
}

// 3.1: the same of an ENUM, and of how a MESSAGE begins and ends.
func TestFormBraces(t *testing.T) {
	for _, s := range []string{
		"enum^", "enum ^{ }", "enum ^1 { }", "enum A^", "enum A ^;", "enum A {^", "enum A { B^", "enum A { B = 1;^",
		"message^", "message ^{ }", "message ^\"A\" { }", "message A^", "message A ^;", "message A {^", "message A { message B { }^",
	} {
		isWrong(t, head+s, api.ErrForm)
	}
	for _, s := range []string{
		"B ^; ", "B = ^; ", "B = ^C; ", "B = ^\"1\"; ", "B = -^- 1; ", "B = -^; ", "B = 1 ^", "B = 1 ^, C = 2; ", "B = 1; ^; ",
		"^1 = 1; ", "^= 1; ", "^{ ", "B = 1 ^2; ", "enum ^B { } ", "reserved ^1; ",
	} {
		isWrong(t, enum(s), api.ErrForm)
	}
	for _, s := range []string{"^; ", "^{ } ", "^= ", "^5 ", "^\"a\" ", "^- ", "^< ", "^, "} {
		isWrong(t, message(s), api.ErrForm)
	}
}

// 3.1: the same of a FIELD.
func TestFormField(t *testing.T) {
	for _, s := range []string{
		"int32 ^", "int32 ^= 1; ", "int32 ^; ", "int32 ^1 = 1; ", "int32 ^< a = 1; ", "int32 a ^; ", "int32 a ^1; ", "int32 a ^b = 1; ",
		"int32 a = ^; ", "int32 a = ^b; ", "int32 a = ^\"1\"; ", "int32 a = -^- 1; ", "int32 a = 1 ^", "int32 a = 1 ^, b = 2; ", "int32 a = 1 ^to 2; ",
		"repeated ^", "repeated ^= 1; ", "repeated ^\"int32\" a = 1; ", "repeated int32 ^= 1; ", "repeated repeated int32 ^a = 1; ",
		"map ^", "map ^a = 1; ", "map ^, ", "map <^> a = 1; ", "map <^, int32> a = 1; ", "map <^1, int32> a = 1; ", "map <int32 ^> a = 1; ",
		"map <int32 ^int32> a = 1; ", "map <int32,^> a = 1; ", "map <int32, int32 ^a = 1; ", "map <int32, int32 ^, int32> a = 1; ",
		"map <int32, int32> ^= 1; ", "map <int32, map^<int32, int32>> a = 1; ", "map <repeated ^int32, int32> a = 1; ", "map <int32, repeated ^int32> a = 1; ",
	} {
		isWrong(t, message(s), api.ErrForm)
	}
}

// 3.1: the same of a RESERVED, and of a ONEOF.
func TestFormOthers(t *testing.T) {
	for _, s := range []string{
		"reserved ^", "reserved ^; ", "reserved ^a; ", "reserved ^\"a\"; ", "reserved ^, 1; ", "reserved ^to 1; ", "reserved 1 ^", "reserved 1 ^2; ",
		"reserved 1 ^To 2; ", "reserved 1 ^- 2; ", "reserved 1 to ^; ", "reserved 1 to ^max; ", "reserved 1 to 2 ^to 3; ", "reserved 1,^; ", "reserved 1, ^, 2; ",
		"oneof ^", "oneof ^{ int32 a = 1; } ", "oneof c ^; ", "oneof c ^int32 a = 1; ", "oneof c { ^} ", "oneof c { ^; } ", "oneof c { ^1 } ", "oneof c { int32 ^} ",
		"oneof c { int32 a = 1 ^} ", "oneof c { int32 a = 1; ^; } ", "oneof c { int32 a = 1; oneof d ^{ int32 b = 2; } } ", "oneof c { int32 a = 1; }^; ",
	} {
		isWrong(t, message(s), api.ErrForm)
	}
	isWrong(t, head+"message A { oneof c { int32 a = 1;^", api.ErrForm)
	isWrong(t, head+"message A { oneof c { int32 a = 1; }^", api.ErrForm)
}

// 3.1: a text that ends too soon, wherever that is.
func TestCut(t *testing.T) {
	for i := range sample {
		isAsModel(t, sample[:i])
	}
}

// 3.1: Split's errors come first, though a token ahead may not stand there.
func TestSplitErrors(t *testing.T) {
	for _, s := range []string{"^@", head + "^@", "; ^@", message("; ^\t"), message("int32 a = 1; ^\"a"), head + "message A {^\r}", message("int32 a.b = 1; ^/ "), head + "message " + strings.Repeat("a", 21) + " { } ^/"} {
		isWrong(t, s, api.ErrForm)
	}
	for _, s := range []string{"^12345678901", "; ^12345678901", message("int32 a = ^12345678901; "), enum("V = -^12345678901; "), message("reserved ^00000000001; ")} {
		isWrong(t, s, api.ErrLimit)
	}
}

// 3.1: ErrLimit at a NAME of more than MaxName letters; a TYPE may be longer.
func TestLongNames(t *testing.T) {
	for _, letters := range []string{"a", "Z", "_", "a1"} {
		most := strings.Repeat(letters, api.MaxName)[:api.MaxName]
		for _, s := range []string{
			head + "message ^NAME { }", head + "enum ^NAME { }", enum("^NAME = 0; "), enum("V = 0; ^NAME = 0; "),
			message("int32 ^NAME = 1; "), message("repeated int32 ^NAME = 1; "), message("map<int32, int32> ^NAME = 1; "),
			message("oneof ^NAME { int32 a = 1; } "), message("oneof c { int32 ^NAME = 1; } "), message("oneof c { int32 a = 1; int32 ^NAME = 1; } "),
			message("message ^NAME { } "), message("enum ^NAME { } "), message("enum V { ^NAME = 1; } "),
		} {
			isRight(t, strings.ReplaceAll(strings.Replace(s, "^", "", 1), "NAME", most))
			isWrong(t, strings.ReplaceAll(s, "NAME", most+"b"), api.ErrLimit)
			isWrong(t, strings.ReplaceAll(s, "NAME", most+"0"), api.ErrLimit)
			isWrong(t, strings.ReplaceAll(s, "NAME", strings.Repeat(most, 50)), api.ErrLimit)
			isWrong(t, strings.ReplaceAll(s, "NAME", most+".b"), api.ErrForm)
		}
		long := most + most
		isRight(t, message(long+" a = 1; repeated "+long+" b = 2; map<"+long+", "+long+"> c = 3; oneof d { "+long+" e = 4; } "))
	}
}

// 3.1: ErrLimit at the NAME of a MESSAGE that stands in MaxDepth others.
func TestDepth(t *testing.T) {
	deep := func(n int) string { return strings.Repeat("message A { ", n) }
	for n := range api.MaxDepth + 1 {
		isRight(t, head+deep(n)+strings.Repeat("} ", n))
	}
	// An enum, or a choice, in the deepest one is no MESSAGE.
	isRight(t, head+deep(api.MaxDepth)+"enum E { V = 0; } oneof c { A a = 1; } "+strings.Repeat("} ", api.MaxDepth))
	// One beside the other is not in it.
	isRight(t, head+deep(api.MaxDepth)+"} message A { } "+strings.Repeat("} ", api.MaxDepth-1)+deep(api.MaxDepth)+strings.Repeat("} ", api.MaxDepth))

	isWrong(t, head+deep(api.MaxDepth)+"message ^A { "+strings.Repeat("} ", api.MaxDepth+1), api.ErrLimit)
	isWrong(t, head+deep(api.MaxDepth)+"} } message A { message A { message ^A { }", api.ErrLimit)
	isWrong(t, head+deep(api.MaxDepth)+"message ^A { "+strings.Repeat("message A { ", 70000), api.ErrLimit)
	isWrong(t, head+deep(api.MaxDepth)+"message ^"+strings.Repeat("a", api.MaxName+1), api.ErrLimit)
	isWrong(t, head+deep(api.MaxDepth)+"message ^A", api.ErrLimit)
	isWrong(t, head+deep(api.MaxDepth)+"message ^A.B { }", api.ErrForm)
	isWrong(t, head+deep(api.MaxDepth)+"message ^{ }", api.ErrForm)
}

// 3.1: ErrLimit at the first token behind MaxItems of what stands in an ENUM, at the top, or in a MESSAGE.
func TestItems(t *testing.T) {
	for _, c := range []struct {
		ahead, inside, behind string
		each                  int
	}{
		{"", "enum E { } ", "", 1},
		{"", "message A { } ", "", 1},
		{"", "message A { int32 a = 1; reserved 1; } enum E { V = 0; } ", "", 2},
		{"enum E { ", "V# = #; ", "}", 1},
		{"enum E { ", "V = -1; ", "}", 1},
		{"message A { enum E { ", "V# = #; ", "} }", 1},
		{"message A { ", "int32 a# = #; ", "}", 1},
		{"message A { ", "repeated int32 a = 1; ", "}", 1},
		{"message A { ", "map<int32, int32> a = 1; ", "}", 1},
		{"message A { ", "message B { } ", "}", 1},
		{"message A { ", "enum E { V = 0; W = 1; } ", "}", 1},
		{"message A { ", "reserved #; ", "}", 1},
		{"message A { ", "oneof c { int32 a = 1; } ", "}", 1},
		{"message A { message B { ", "message C { } ", "} }", 1},
		{"message A { } message B { ", "int32 a = 1; message C { int32 a = 1; } reserved 1; enum E { V = 0; } oneof c { int32 a = 1; } map<int32, int32> a = 1; ", "}", 6},
	} {
		most := api.MaxItems / c.each
		isRight(t, head+c.ahead+many(most-1, c.inside)+c.behind)
		isRight(t, head+c.ahead+many(most, c.inside)+c.behind)
		isWrong(t, head+c.ahead+many(most, c.inside)+"^"+many(1, c.inside)+c.behind, api.ErrLimit)
		isWrong(t, head+c.ahead+many(most, c.inside)+"^"+many(most, c.inside)+c.behind, api.ErrLimit)
	}
}

// 3.1: whatever the first token behind MaxItems is: it is no } (at the top: no End).
func TestItemsWhatever(t *testing.T) {
	full := many(api.MaxItems, "enum E { } ")
	for _, next := range []string{"{", "=", ";", "1", "\"a\"", "a", "a.b", "repeated", "message", "enum", "-"} {
		isWrong(t, head+full+"^"+next, api.ErrLimit)
		isWrong(t, message(full+"^"+next+" "), api.ErrLimit)
		isWrong(t, enum(many(api.MaxItems, "V = 0; ")+"^"+next+" "), api.ErrLimit)
	}
	isWrong(t, head+full+"^}", api.ErrLimit)
	isWrong(t, head+"message A { "+full+"^", api.ErrLimit)
	isWrong(t, head+"enum E { "+many(api.MaxItems, "V = 0; ")+"^", api.ErrLimit)
}

// 3.1: ErrLimit at the first token of a FIELD, or of a MEMBER, ahead of which MaxItems fields stand in the MESSAGE.
func TestFields(t *testing.T) {
	const most = api.MaxItems
	oneof := func(n int) string { return "oneof c { " + many(n, "int32 a# = #; ") + "} " }
	isRight(t, message(oneof(most)))
	isRight(t, message(oneof(most)+"reserved 1; enum E { } message B { int32 a = 1; "+oneof(most-1)+"} "))
	isRight(t, message(many(most-1, "int32 a = 1; ")+oneof(1)))
	isRight(t, message(oneof(most-2)+"int32 a = 1; repeated int32 a = 1; message B { } "))
	// Of another MESSAGE they are others.
	isRight(t, message(oneof(most))+" message B { "+oneof(most)+"}")
	isRight(t, message("message B { "+oneof(most)+"} message C { "+oneof(most)+"} "+oneof(most)))

	isWrong(t, message("oneof c { "+many(most, "int32 a = 1; ")+"^int32 a = 1; } "), api.ErrLimit)
	isWrong(t, message("oneof c { "+many(most, "int32 a = 1; ")+"^message a = 1; } "), api.ErrLimit)
	isWrong(t, message(oneof(most)+"oneof c { ^int32 a = 1; } "), api.ErrLimit)
	isWrong(t, message(many(most-1, "int32 a = 1; ")+"oneof c { int32 a = 1; ^int32 a = 1; } "), api.ErrLimit)
	isRight(t, message(oneof(1)+many(most-3, "int32 a = 1; ")+oneof(2)))
	isWrong(t, message(oneof(2)+many(most-4, "int32 a = 1; ")+oneof(2)+"^int32 a = 1; "), api.ErrLimit)
	for _, field := range []string{"int32 a = 1; ", "repeated int32 a = 1; ", "map<int32, int32> a = 1; ", ".A a = 1; ", "to a = 1; "} {
		isWrong(t, message(oneof(most)+"^"+field), api.ErrLimit)
		isWrong(t, message(oneof(most-1)+field+"^"+field), api.ErrLimit)
		isWrong(t, message(oneof(most)+"message B { "+field+"} ^"+field), api.ErrLimit)
	}
	// What begins no field is no field too many.
	isWrong(t, message(oneof(most)+"^= "), api.ErrForm)
	isWrong(t, message(oneof(most)+"oneof c { ^} "), api.ErrForm)
	isWrong(t, message(oneof(most)+"oneof c { ^1 } "), api.ErrForm)
	isWrong(t, message(oneof(most)+"oneof c { ^repeated int32 a = 1; } "), api.ErrForm)
}

// 3.1: ErrLimit at the first token of a range ahead of which MaxItems ranges stand in the MESSAGE.
func TestRanges(t *testing.T) {
	const most = api.MaxItems
	ranges := func(n int) string { return "reserved " + many(n-1, "# to 9, ") + "5; " }
	isRight(t, message(ranges(most)))
	isRight(t, message(ranges(most)+"int32 a = 1; message B { "+ranges(most)+"} enum E { } "))
	isRight(t, message("message B { "+ranges(most)+"} "+ranges(most/2)+ranges(most/2)))

	isWrong(t, message("reserved "+many(most, "#, ")+"^1; "), api.ErrLimit)
	isWrong(t, message("reserved "+many(most, "#, ")+"^1 to 2, 3; "), api.ErrLimit)
	isWrong(t, message(ranges(most)+"reserved ^1; "), api.ErrLimit)
	isWrong(t, message(ranges(most-1)+"reserved 1, ^2; "), api.ErrLimit)
	isWrong(t, message(ranges(most/2)+"message B { "+ranges(most)+"} "+ranges(most/2)+"reserved ^1; "), api.ErrLimit)
	// What begins no range is no range too many.
	isWrong(t, message("reserved "+many(most, "#, ")+"^; "), api.ErrForm)
	isWrong(t, message(ranges(most)+"reserved ^a; "), api.ErrForm)
}

// 3.1, P3: of several tokens the first one's error is told.
func TestFirstError(t *testing.T) {
	long := strings.Repeat("a", api.MaxName+1)
	isWrong(t, head+"message ^"+long+" ; ", api.ErrLimit)
	isWrong(t, head+"message ^; "+long, api.ErrForm)
	isWrong(t, message("int32 ^"+long+" = ; "), api.ErrLimit)
	isWrong(t, message("int32 a ^; int32 "+long+" = 1; "), api.ErrForm)
	isWrong(t, enum(many(api.MaxItems, "V = 1; ")+"^V ; "), api.ErrLimit)
	isWrong(t, enum(many(api.MaxItems-1, "V = 1; ")+"V ^; V = 1; V = 1; "), api.ErrForm)
}

// P2: in a text without an error nothing stands that no sentence names.
func TestZero(t *testing.T) {
	got := isRight(t, sample)
	if got.Name != "" || len(got.Reserved) != 0 || len(got.Fields) != 0 {
		t.Errorf("at the top: %+v", got)
	}
}

// P4: what a call tells is the caller's: whatever is done to one list is seen in no other one, nor in another answer.
func TestFresh(t *testing.T) {
	const s = head + "message A { reserved 1, 2, 3; reserved 4; enum E { V = 0; W = 1; X = 2; } enum F { V = 0; } message B { reserved 1; int32 a = 1; } message C { int32 a = 1; } message D { } oneof c { int32 a = 1; int32 b = 2; } int32 d = 3; } enum G { V = 0; }"
	first, second := isRight(t, s), isRight(t, s)
	spoil(&first)
	isParsed(t, s, second)
	// Of ranges, items and fields: A and B have two each, C one, the enums three. One that shares memory would be spoilt already.
	if n := spoil(&second); n != 2+2+1+3 {
		t.Errorf("%d lists spoilt one by one, want 8", n)
	}
}

// spoil writes over the ranges, items and fields of a type, and behind their lengths, and counts the lists that were not spoilt before.
func spoil(t *api.TypeDef) int {
	n := over(t.Reserved, api.Range{From: 77}) + over(t.Fields, api.Field{Name: "spoilt"})
	for _, e := range t.Enums {
		n += over(e.Items, api.Item{Name: "spoilt"})
	}
	for i := range t.Types {
		n += spoil(&t.Types[i])
	}
	return n
}

// over writes x over a list that has something, and is 1, if x stood nowhere in it.
func over[T comparable](l []T, x T) int {
	if len(l) == 0 || slices.Contains(l, x) {
		return 0
	}
	whole := l[:cap(l)]
	for i := range whole {
		whole[i] = x
	}
	return 1
}

// P4: what a call tells hangs on its text alone, not on what was told before.
func TestSameAgain(t *testing.T) {
	for range 3 {
		isParsed(t, sample, sampleType())
		isWrong(t, sample+"^}", api.ErrForm)
	}
}

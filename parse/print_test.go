package parse_test

import (
	"reflect"
	"strings"
	"testing"

	"sealpress/api"
	"sealpress/parse"
)

const top = "syntax = \"proto3\";\n"

// isPrinted fails unless what a text defines is printed so, and that defines the same.
func isPrinted(t *testing.T, s, want string) {
	t.Helper()
	def := isRight(t, s)
	if got := parse.Print(def); got != want {
		t.Errorf("Print of %q:\n%swant\n%s", s, got, want)
	}
	isBack(t, def)
}

// 3.3: of each thing its lines, in their order, two blanks further in within braces.
func TestPrintSample(t *testing.T) {
	isPrinted(t, sample, `syntax = "proto3";
enum E {
  V0 = 0;
  V1 = -5;
}
message A {
  reserved 7, 9 to 12, 20;
  enum G {
    X = 0;
  }
  message B {
    enum F {
    }
    .A.B g = 1;
  }
  int32 a = 1;
  oneof c {
    string b = 2;
    A d = 3;
  }
  repeated sint32 e = 4;
  map<string, A.B> f = 5;
}
message C {
}
`)
}

// 3.3: what defines nothing is one line.
func TestPrintNothing(t *testing.T) {
	isPrinted(t, head, top)
	if got := parse.Print(api.TypeDef{}); got != top {
		t.Errorf("Print of nothing: %q", got)
	}
}

// 3.3: enums ahead of types, at the top and in types; what is in a type stands ahead of its fields.
func TestPrintOrder(t *testing.T) {
	isPrinted(t, head+"message B { } enum Z { } message A { } enum Y { V = 1; }",
		top+"enum Z {\n}\nenum Y {\n  V = 1;\n}\nmessage B {\n}\nmessage A {\n}\n")
	isPrinted(t, message("T f = 1; message B { } reserved 5; enum Z { } T g = 2; message C { } enum Y { } reserved 4; "),
		top+"message A {\n  reserved 5, 4;\n  enum Z {\n  }\n  enum Y {\n  }\n  message B {\n  }\n  message C {\n  }\n  T f = 1;\n  T g = 2;\n}\n")
}

// 3.3: a range of one number is that number; one that falls is told as it is.
func TestPrintRanges(t *testing.T) {
	for s, want := range map[string]string{
		"reserved 5; ":                         "reserved 5;",
		"reserved 5 to 5; ":                    "reserved 5;",
		"reserved 5 to 6; ":                    "reserved 5 to 6;",
		"reserved 6 to 5; ":                    "reserved 6 to 5;",
		"reserved 1, 2 to 3,4; reserved 007; ": "reserved 1, 2 to 3, 4, 7;",
		"reserved 0 to 9999999999; ":           "reserved 0 to 9999999999;",
	} {
		isPrinted(t, message(s), top+"message A {\n  "+want+"\n}\n")
	}
}

// 3.3, P5: numbers have a - below 0, and no nought ahead.
func TestPrintNumbers(t *testing.T) {
	isPrinted(t, enum("A = 00; B = -0; C = -007; D = 0123456789; E = -9999999999; "),
		top+"enum E {\n  A = 0;\n  B = 0;\n  C = -7;\n  D = 123456789;\n  E = -9999999999;\n}\n")
	isPrinted(t, message("T a = 09; repeated T b = -1; map<K,T> c = -02; oneof d { T e = -3; } "),
		top+"message A {\n  T a = 9;\n  repeated T b = -1;\n  map<K, T> c = -2;\n  oneof d {\n    T e = -3;\n  }\n}\n")
}

// 3.3: fields of one Choice that follow each other stand in one ONEOF, others do not.
func TestPrintChoices(t *testing.T) {
	for s, want := range map[string]string{
		"oneof c { T a = 1; } ":                                             "oneof c {|  T a = 1;|}",
		"oneof c { T a = 1; T b = 2; } ":                                    "oneof c {|  T a = 1;|  T b = 2;|}",
		"oneof c { T a = 1; } oneof d { T b = 2; } ":                        "oneof c {|  T a = 1;|}|oneof d {|  T b = 2;|}",
		"oneof c { T a = 1; } oneof c { T b = 2; } ":                        "oneof c {|  T a = 1;|  T b = 2;|}",
		"oneof c { T a = 1; } reserved 5; oneof c { T b = 2; } ":            "reserved 5;|oneof c {|  T a = 1;|  T b = 2;|}",
		"oneof c { T a = 1; } T x = 3; oneof c { T b = 2; } ":               "oneof c {|  T a = 1;|}|T x = 3;|oneof c {|  T b = 2;|}",
		"T x = 3; oneof c { T a = 1; } repeated T y = 4; ":                  "T x = 3;|oneof c {|  T a = 1;|}|repeated T y = 4;",
		"oneof c { T a = 1; } oneof d { T b = 2; } oneof c { T e = 3; } ":   "oneof c {|  T a = 1;|}|oneof d {|  T b = 2;|}|oneof c {|  T e = 3;|}",
		"oneof c { T a = 1; } map<K, V> m = 2; ":                            "oneof c {|  T a = 1;|}|map<K, V> m = 2;",
		"oneof oneof { map a = 1; message b = 2; } repeated repeated c= 3;": "oneof oneof {|  map a = 1;|  message b = 2;|}|repeated repeated c = 3;",
	} {
		isPrinted(t, message(s), top+"message A {\n  "+strings.ReplaceAll(want, "|", "\n  ")+"\n}\n")
	}
}

// 3.3: each brace is two blanks, to the deepest one.
func TestPrintDepth(t *testing.T) {
	var want strings.Builder
	want.WriteString(top)
	for i := range api.MaxDepth {
		want.WriteString(strings.Repeat("  ", i) + "message A {\n")
	}
	deepest := strings.Repeat("  ", api.MaxDepth)
	want.WriteString(deepest + "enum E {\n" + deepest + "  V = 0;\n" + deepest + "}\n")
	want.WriteString(deepest + "oneof c {\n" + deepest + "  T a = 1;\n" + deepest + "}\n")
	for i := range api.MaxDepth {
		want.WriteString(strings.Repeat("  ", api.MaxDepth-1-i) + "}\n")
	}
	isPrinted(t, head+strings.Repeat("message A { ", api.MaxDepth)+"oneof c { T a = 1; } enum E { V = 0; } "+strings.Repeat("} ", api.MaxDepth), want.String())
}

// 3.1, 3.3: what is as much as may be is printed so that it may be, too.
func TestPrintMost(t *testing.T) {
	isBack(t, isRight(t, head+many(api.MaxItems, "enum E { "+many(api.MaxItems, "V# = #; ")+"} ")))
	isBack(t, isRight(t, head+many(api.MaxItems, "message A { oneof c { "+many(api.MaxItems, "T a# = #; ")+"} reserved "+many(api.MaxItems-1, "#, ")+"5; "+many(api.MaxItems-2, "message B# { } ")+"} ")))
	isBack(t, isRight(t, message(many(api.MaxItems, "oneof c# { T a = 1; } "))))
	isBack(t, isRight(t, message(many(api.MaxItems-1, "reserved #; ")+"T a = 1; ")))
}

// P1: of what Parse did not tell Print ends, too, though a type stands in itself.
func TestPrintOthers(t *testing.T) {
	round := []api.TypeDef{{Name: "A", Fields: []api.Field{{}}}}
	round[0].Types = round
	deep := api.TypeDef{}
	for range 1 << 16 {
		deep = api.TypeDef{Types: []api.TypeDef{deep}}
	}
	for _, def := range []api.TypeDef{
		round[0], {Types: round}, deep,
		{Name: "A", Reserved: []api.Range{{From: -1, To: 1}}, Fields: []api.Field{{Name: "f", Many: true, Key: "K", Choice: "c"}}},
		{Types: []api.TypeDef{{Name: "\n}\"", Fields: []api.Field{{Choice: " "}, {}, {Choice: "\xff"}}, Enums: []api.EnumDef{{}}}}},
		{Enums: make([]api.EnumDef, 1000), Types: make([]api.TypeDef, 1000)},
	} {
		if got := parse.Print(def); !strings.HasPrefix(got, top) {
			t.Errorf("Print: %.100q", got)
		}
	}
}

// P4: Print writes into no list, nor behind its length, and tells the same again.
func TestPrintKeeps(t *testing.T) {
	def := sampleType()
	a := &def.Types[0]
	a.Reserved = append(make([]api.Range, 0, 9), a.Reserved...)
	a.Fields = append(make([]api.Field, 0, 9), a.Fields...)
	first := parse.Print(def)
	if second := parse.Print(def); second != first {
		t.Errorf("Print again: %s, want %s", second, first)
	}
	if !reflect.DeepEqual(def, sampleType()) {
		t.Errorf("Print changed a type: %+v", def)
	}
	if behind := a.Fields[:9][len(a.Fields):]; !reflect.DeepEqual(behind, make([]api.Field, 4)) {
		t.Errorf("Print wrote behind a list: %+v", behind)
	}
	if behind := a.Reserved[:9][len(a.Reserved):]; !reflect.DeepEqual(behind, make([]api.Range, 6)) {
		t.Errorf("Print wrote behind a list: %+v", behind)
	}
}

package check_test

import (
	"errors"
	"reflect"
	"slices"
	"strings"
	"testing"

	"sealpress/api"
	"sealpress/check"
	"sealpress/parse"
)

// head is what each text begins with.
const head = "syntax = \"proto3\"; "

// kindNames are the kinds' names, in the order of their numbers.
func kindNames() []string {
	return []string{"bool", "int32", "int64", "uint32", "uint64", "sint32", "sint64", "fixed32", "fixed64", "sfixed32", "sfixed64", "string", "bytes"}
}

// parsed is what a text defines.
func parsed(t *testing.T, s string) api.TypeDef {
	t.Helper()
	d, err := parse.Parse(head + s)
	if err != nil {
		t.Fatalf("Parse(%q): %v", s, err)
	}
	return d
}

// linked is what a text defines, linked.
func linked(t *testing.T, s string) *check.Types {
	t.Helper()
	l, err := check.Link(parsed(t, s))
	if err != nil || l == nil {
		t.Fatalf("Link of %q: %v, %v", s, l, err)
	}
	return l
}

// isWrong fails unless Link of a text tells this error, without a place, and nothing else.
func isWrong(t *testing.T, s string, want api.Errno) {
	t.Helper()
	l, err := check.Link(parsed(t, s))
	var at *api.At
	if api.Tell(err) != want || l != nil || errors.As(err, &at) {
		t.Errorf("Link of %q: %v, %v, want error %d", s, l, err, want)
	}
}

// isErr fails unless an error is this one, without a place.
func isErr(t *testing.T, what string, err error, want api.Errno) {
	t.Helper()
	var at *api.At
	if api.Tell(err) != want || errors.As(err, &at) {
		t.Errorf("%s: error %v, want %d", what, err, want)
	}
}

// 4.1: no two have one full name, whatever they are, and wherever they stand; own names alone may be the same.
func TestNamesTwice(t *testing.T) {
	for _, s := range []string{
		"enum A { X = 0; } enum A { X = 0; }",
		"message A { } message A { }",
		"message A { } enum A { X = 0; }",
		"enum A { X = 0; } message A { }",
		"message A { message B { } message B { } }",
		"message A { message B { } enum B { X = 0; } }",
		"message A { enum B { X = 0; } enum B { X = 0; } }",
		"message A { message A { message A { } enum A { X = 0; } } }",
		"message A { message B { } } message C { message B { } } message A { }",
	} {
		isWrong(t, s, api.ErrTwice)
	}
	for _, s := range []string{
		"",
		"message A { message A { message A { } enum B { X = 0; } } enum B { X = 0; } } enum B { X = 0; }",
		"message A { message B { } } message B { message A { } }",
		"message A { int32 A = 1; oneof A { int32 B = 2; } message B { } } enum E { A = 0; E = 1; }",
		"message a { } message A { }",
	} {
		linked(t, s)
	}
}

// 4.1: no full name is a kind's; an own name within a type may be.
func TestNamesOfKinds(t *testing.T) {
	for _, k := range kindNames() {
		isWrong(t, "message "+k+" { }", api.ErrTwice)
		isWrong(t, "enum "+k+" { X = 0; }", api.ErrTwice)
		linked(t, "message A { message "+k+" { } } enum "+k+"_ { X = 0; }")
		linked(t, "message A { enum "+k+" { X = 0; } }")
	}
	for _, free := range []string{"float", "double", "enum", "message", "map", "Bool", "int", "string1"} {
		linked(t, "message "+free+" { }")
	}
}

// 4.1: all full names come ahead of all else.
func TestNamesFirst(t *testing.T) {
	for _, bad := range []string{"enum X { }", "enum X { A = 1; }", "message X { reserved 0; }", "message X { Y y = 0; }"} {
		isWrong(t, bad+" message A { } message A { }", api.ErrTwice)
		isWrong(t, bad+" message A { message B { enum C { A = 0; } message C { } } }", api.ErrTwice)
		isWrong(t, "message string { "+bad+" }", api.ErrTwice)
	}
}

// 4.1: an enum has items, the first one of which is 0; each is a number of 32 bits, and no two have one name, or one number.
func TestEnums(t *testing.T) {
	for s, want := range map[string]api.Errno{
		"":                                   api.ErrNone,
		"A = 1;":                             api.ErrOrder,
		"A = -1;":                            api.ErrOrder,
		"A = 1; B = 0;":                      api.ErrOrder,
		"A = 9999999999;":                    api.ErrOrder,
		"A = 2; A = 2;":                      api.ErrOrder,
		"A = 0; B = 2147483648;":             api.ErrRange,
		"A = 0; B = -2147483649;":            api.ErrRange,
		"A = 0; B = 9999999999;":             api.ErrRange,
		"A = 0; A = 9999999999;":             api.ErrRange,
		"A = 0; B = 4294967296;":             api.ErrRange,
		"A = 0; A = 1;":                      api.ErrTwice,
		"A = 0; B = 0;":                      api.ErrTwice,
		"A = -0; B = 0;":                     api.ErrTwice,
		"A = 0; B = 1; C = 2; B = 3;":        api.ErrTwice,
		"A = 0; B = 1; C = 2; D = 1;":        api.ErrTwice,
		"A = 0; A = 1; B = 9999999999;":      api.ErrTwice,
		"A = 0; B = 9999999999; A = 1;":      api.ErrRange,
		"A = 0; B = -1; C = 1; D = -1;":      api.ErrTwice,
		"A = 0; B = -9999999999; C = 0; ":    api.ErrRange,
		"A = 0; B = 2147483647; C = 1; B=0;": api.ErrTwice,
	} {
		isWrong(t, "enum E { "+s+" }", want)
		isWrong(t, "message A { enum E { "+s+" } }", want)
	}
	linked(t, "enum E { A = 0; B = 2147483647; C = -2147483648; a = 1; D = -1; }")
	linked(t, "enum E { A = 0; } enum F { A = 0; } message M { enum E { A = 0; E = 1; } int32 A = 1; }")
}

// 4.1: a range is from 1 to MaxNumber, and rises; all of them come ahead of the fields.
func TestRanges(t *testing.T) {
	for _, s := range []string{
		"0", "0 to 5", "536870912", "1 to 536870912", "5 to 4", "9999999999", "536870911 to 1", "1, 2, 0", "3, 5 to 4, 9", "0 to 0",
	} {
		isWrong(t, "message A { reserved "+s+"; }", api.ErrRange)
		isWrong(t, "message A { B b = 1; int32 b = 1; reserved "+s+"; }", api.ErrRange)
		isWrong(t, "message A { reserved 1; int32 b = 1; reserved "+s+"; }", api.ErrRange)
	}
	linked(t, "message A { reserved 1, 2 to 2, 3 to 7, 5 to 9, 1, 536870911, 19000 to 19999; int32 a = 10; }")
	linked(t, "message A { reserved 1 to 536870911; }")
}

// 4.1: of a field its number, its name, its type and its key, in this order.
func TestFields(t *testing.T) {
	for s, want := range map[string]api.Errno{
		"int32 a = 0;":                                      api.ErrRange,
		"int32 a = -1;":                                     api.ErrRange,
		"int32 a = 536870912;":                              api.ErrRange,
		"int32 a = 9999999999;":                             api.ErrRange,
		"int32 a = 19000;":                                  api.ErrRange,
		"int32 a = 19999;":                                  api.ErrRange,
		"int32 a = 19500;":                                  api.ErrRange,
		"reserved 19000 to 19999; int32 a = 19500;":         api.ErrRange,
		"reserved 5; int32 a = 5;":                          api.ErrFalse,
		"int32 a = 5; reserved 5;":                          api.ErrFalse,
		"reserved 1, 4 to 6; int32 a = 4;":                  api.ErrFalse,
		"reserved 1, 4 to 6; int32 a = 5;":                  api.ErrFalse,
		"reserved 1, 4 to 6; oneof c { int32 a = 6;}":       api.ErrFalse,
		"reserved 9 to 12, 4 to 6; int32 a = 10;":           api.ErrFalse,
		"int32 a = 1; int32 a = 2;":                         api.ErrTwice,
		"int32 a = 1; int32 b = 1;":                         api.ErrTwice,
		"int32 a = 1; int32 b = 2; int32 a = 3;":            api.ErrTwice,
		"int32 a = 1; int32 b = 2; int32 c = 1;":            api.ErrTwice,
		"int32 a = 1; oneof c { int32 a = 2; }":             api.ErrTwice,
		"oneof c { int32 a = 1; } oneof d { int32 b = 1; }": api.ErrTwice,
		"B a = 1;":                                                api.ErrName,
		"float a = 1;":                                            api.ErrName,
		"repeated B a = 1;":                                       api.ErrName,
		"oneof c { B a = 1; }":                                    api.ErrName,
		"map<string, B> a = 1;":                                   api.ErrName,
		"map<bytes, int32> a = 1;":                                api.ErrArg,
		"map<A, int32> a = 1;":                                    api.ErrArg,
		"map<E, int32> a = 1;":                                    api.ErrArg,
		"map<B, int32> a = 1;":                                    api.ErrArg,
		"map<.string, int32> a = 1;":                              api.ErrArg,
		"map<float, int32> a = 1;":                                api.ErrArg,
		"map<bytes, B> a = 0;":                                    api.ErrRange,
		"reserved 1; map<bytes, B> a = 1;":                        api.ErrFalse,
		"reserved 2; int32 a = 1; map<bytes, B> a = 2;":           api.ErrFalse,
		"int32 a = 1; map<bytes, B> a = 2;":                       api.ErrTwice,
		"int32 a = 1; map<bytes, B> b = 1;":                       api.ErrTwice,
		"map<bytes, B> a = 1;":                                    api.ErrName,
		"map<bytes, int32> a = 1; B b = 1;":                       api.ErrArg,
		"B a = 1; map<bytes, int32> b = 2;":                       api.ErrName,
		"int32 a = 1; int32 a = 2; int32 b = 0;":                  api.ErrTwice,
		"reserved 3; B a = 1; int32 b = 3;":                       api.ErrName,
		"reserved 3; int32 a = 3; int32 b = 0;":                   api.ErrFalse,
		"reserved 2; int32 a = 1; int32 a = 2; int32 b = 0; ":     api.ErrFalse,
		"int32 a = 1; int32 b = 0; int32 a = 1; ":                 api.ErrRange,
		"oneof c { int32 a = 1; B b = 2; } map<bytes, B> d = 3; ": api.ErrName,
		"map<A, B> a = 5; reserved 5; ":                           api.ErrFalse,
	} {
		isWrong(t, "enum E { X = 0; } message A { "+s+" }", want)
		isWrong(t, "enum E { X = 0; } message Z { message A { "+s+" } }", want)
	}
	linked(t, "message A { reserved 4 to 6; int32 a = 1; int32 b = 536870911; int32 c = 18999; int32 d = 20000; int32 e = 3; int32 f = 7; }")
	linked(t, "message A { int32 a = 1; message B { int32 a = 1; } oneof a { int32 b = 2; } oneof a { int32 c = 3; } }")
	linked(t, "message A { reserved 1; message B { int32 a = 1; } } message C { int32 a = 1; }")
}

// 4.1: what is wrong is told enums first, then types, each ahead of what stands in it.
func TestOrder(t *testing.T) {
	const order, none = "enum O { X = 1; }", "enum N { }"
	const name, arg = "B b = 1;", "map<bytes, bool> c = 2;"
	for s, want := range map[string]api.Errno{
		order + none:                         api.ErrOrder,
		none + order:                         api.ErrNone,
		"message A { " + name + " } " + none: api.ErrNone,
		"message A { " + none + name + " }":  api.ErrName,
		"message A { message I { " + arg + " } " + name + " }":                                   api.ErrName,
		"message A { message I { " + arg + " } " + none + " }":                                   api.ErrNone,
		"message A { message I { " + none + " } " + order + " }":                                 api.ErrOrder,
		"message A { message I { " + none + " } message J { " + arg + " } }":                     api.ErrNone,
		"message A { message I { " + none + " } } message C { " + name + " }":                    api.ErrNone,
		"message A { message I { } } message C { " + arg + " } message D { " + name + " }":       api.ErrArg,
		"message A { " + none + " reserved 0; }":                                                 api.ErrRange,
		"message A { message I { message J { " + arg + " } } " + " message K { " + name + " } }": api.ErrArg,
	} {
		isWrong(t, s, want)
	}
}

// 4.2: of a Type's name in some places what it stands for: from within on, at last by itself.
func TestStandsFor(t *testing.T) {
	const all = `
    enum E { X = 0; } message C { message X { } } message D { } message Q { message D { message A { } } }
    message A { enum E { X = 0; } message C { } message B { message C { message E { } %C% } message int32 { } %B% } %A% }
    message Z { %Z% }`
	for _, x := range []struct {
		in, name, of string
		kind         int
	}{
		{"Z", "C", "C", api.Message},
		{"Z", "E", "E", api.Enum},
		{"Z", "Z", "Z", api.Message},
		{"Z", "A.C", "A.C", api.Message},
		{"Z", "A.E", "A.E", api.Enum},
		{"Z", "A.B.C.E", "A.B.C.E", api.Message},
		{"Z", ".A", "A", api.Message},
		{"Z", ".A.B.C", "A.B.C", api.Message},
		{"A", "C", "A.C", api.Message},
		{"A", "E", "A.E", api.Enum},
		{"A", "D", "D", api.Message},
		{"A", "A", "A", api.Message},
		{"A", "B", "A.B", api.Message},
		{"A", "B.C", "A.B.C", api.Message},
		{"A", ".C", "C", api.Message},
		{"A", ".E", "E", api.Enum},
		{"A", "A.C", "A.C", api.Message},
		{"B", "C", "A.B.C", api.Message},
		{"B", "B", "A.B", api.Message},
		{"B", "B.C", "A.B.C", api.Message},
		{"B", "E", "A.E", api.Enum},
		{"B", "C.E", "A.B.C.E", api.Message},
		{"B", "A.C", "A.C", api.Message},
		{"B", "D", "D", api.Message},
		{"B", "Q.D", "Q.D", api.Message},
		{"B", "int32", "", api.Int32},
		{"B", ".A.B.int32", "A.B.int32", api.Message},
		{"B", "B.int32", "A.B.int32", api.Message},
		{"C", "int32", "", api.Int32},
		{"C", "E", "A.B.C.E", api.Message},
		{"C", "C", "A.B.C", api.Message},
		{"C", "C.E", "A.B.C.E", api.Message},
		{"C", "B.C", "A.B.C", api.Message},
		{"C", ".C", "C", api.Message},
		{"C", ".A.E", "A.E", api.Enum},
		{"C", "Q.D.A", "Q.D.A", api.Message},
		{"C", "D", "D", api.Message},
		{"B", "A.B.C.E", "A.B.C.E", api.Message},
		// The name as a whole is looked for, not its beginning: there is a C further in, but no C.X.
		{"A", "C.X", "C.X", api.Message},
		{"B", "C.X", "C.X", api.Message},
		{"C", "C.X", "C.X", api.Message},
	} {
		full := map[string]string{"A": "A", "B": "A.B", "C": "A.B.C", "Z": "Z"}[x.in]
		types := linked(t, fill(all, x.in, x.name+" f = 1;"))
		got, err := types.Field(full, 1)
		if want := (check.Field{Name: "f", Number: 1, Kind: x.kind, Of: x.of}); err != nil || got != want {
			t.Errorf("%s in %s: %+v, %v, want %+v", x.name, full, got, err, want)
		}
	}
	for in, names := range map[string][]string{
		"Z": {"B", "B.C", ".Z.C", ".B", "..A", ".", "A.", "A..C", "A.D", ".int32", "Z.A", "a", "X", "E.X", "f"},
		"A": {"A.A", "A.C.X", "C.E", ".A.D", "B.E", "E.C", "A.int32", ".B", "A.B.C.C", "Q.A"},
		"C": {".E.C", "C.D", "B.C.X", "E.E", ".B.C", "A.B.E", ".C.E", "D.A"},
	} {
		for _, name := range names {
			isWrong(t, fill(all, in, name+" f = 1;"), api.ErrName)
			isWrong(t, fill(all, in, "map<bool, "+name+"> f = 1;"), api.ErrName)
		}
	}
}

// fill puts a text in one of the places %X% of another one.
func fill(all, place, s string) string {
	for _, p := range []string{"A", "B", "C", "Z"} {
		in := ""
		if p == place {
			in = s
		}
		all = strings.ReplaceAll(all, "%"+p+"%", in)
	}
	return all
}

// sample has one of each thing at least.
const sample = `
  enum E { V0 = 0; V2 = 2; V1 = -5; }
  message b { }
  message A {
    repeated sint32 e = 40; int32 a = 7;
    oneof c { string b = 2; A d = 536870911; }
    map<string, A> f = 5; map<bool, E> g = 1; repeated B.F h = 3; map<sfixed64, bytes> i = 4;
    message B { enum F { X = 0; } }
    message Aa { fixed64 x = 1; }
  }
  message A_ { } message Aa { }`

// 4.3: Names tells all types, and no enum, byte by byte.
func TestNames(t *testing.T) {
	if got, want := linked(t, sample).Names(), []string{"A", "A.Aa", "A.B", "A_", "Aa", "b"}; !slices.Equal(got, want) {
		t.Errorf("Names: %q, want %q", got, want)
	}
	if got := linked(t, "enum E { X = 0; }").Names(); len(got) != 0 {
		t.Errorf("Names of none: %q", got)
	}
	if got, want := linked(t, "message Z { message A { } } message a { } message _ { } message Y9 { } message Y { } ").Names(), []string{"Y", "Y9", "Z", "Z.A", "_", "a"}; !slices.Equal(got, want) {
		t.Errorf("Names: %q, want %q", got, want)
	}
}

// sampleFields are A's, by their numbers.
func sampleFields() []check.Field {
	return []check.Field{
		{Name: "g", Number: 1, Kind: api.Enum, Of: "E", Key: api.Bool},
		{Name: "b", Number: 2, Kind: api.String, Choice: "c"},
		{Name: "h", Number: 3, Kind: api.Enum, Of: "A.B.F", Many: true},
		{Name: "i", Number: 4, Kind: api.Bytes, Key: api.Sfixed64},
		{Name: "f", Number: 5, Kind: api.Message, Of: "A", Key: api.String},
		{Name: "a", Number: 7, Kind: api.Int32},
		{Name: "e", Number: 40, Kind: api.Sint32, Many: true},
		{Name: "d", Number: 536870911, Kind: api.Message, Of: "A", Choice: "c"},
	}
}

// 4.3: Fields tells a type's, by their numbers, and Field each of them.
func TestFieldsOf(t *testing.T) {
	types, want := linked(t, sample), sampleFields()
	got, err := types.Fields("A")
	if err != nil || !slices.Equal(got, want) {
		t.Errorf("Fields: %+v, %v, want %+v", got, err, want)
	}
	for _, f := range want {
		if got, err := types.Field("A", f.Number); err != nil || got != f {
			t.Errorf("Field %d: %+v, %v, want %+v", f.Number, got, err, f)
		}
	}
	for _, none := range []string{"b", "A.B", "A_", "Aa"} {
		if l, err := types.Fields(none); err != nil || len(l) != 0 {
			t.Errorf("Fields of %s: %v, %v", none, l, err)
		}
	}
	for _, n := range []int{0, -1, 6, 8, 39, 41, 536870910, 536870912, 1 << 40, -1 << 63} {
		f, err := types.Field("A", n)
		isErr(t, "Field", err, api.ErrMissing)
		if f != (check.Field{}) {
			t.Errorf("Field %d: %+v", n, f)
		}
	}
}

// 4.3: each kind is told by its number, as what a field is, and as its key.
func TestKinds(t *testing.T) {
	for i, k := range kindNames() {
		got, err := linked(t, "message A { "+k+" a = 1; }").Field("A", 1)
		if want := (check.Field{Name: "a", Number: 1, Kind: i + 1}); err != nil || got != want {
			t.Errorf("%s: %+v, %v", k, got, err)
		}
		if k == "bytes" {
			continue
		}
		got, err = linked(t, "message A { map<"+k+", bytes> a = 1; }").Field("A", 1)
		if want := (check.Field{Name: "a", Number: 1, Kind: api.Bytes, Key: i + 1}); err != nil || got != want {
			t.Errorf("map<%s, bytes>: %+v, %v", k, got, err)
		}
	}
}

// 4.3: Items tells an enum's as they stand.
func TestItems(t *testing.T) {
	types := linked(t, sample)
	got, err := types.Items("E")
	if want := []api.Item{{Name: "V0"}, {Name: "V2", Number: 2}, {Name: "V1", Number: -5}}; err != nil || !slices.Equal(got, want) {
		t.Errorf("Items: %v, %v, want %v", got, err, want)
	}
	if got, err := types.Items("A.B.F"); err != nil || !slices.Equal(got, []api.Item{{Name: "X"}}) {
		t.Errorf("Items: %v, %v", got, err)
	}
}

// areMissing fails unless there is no such type, and no such enum.
func areMissing(t *testing.T, types *check.Types, typ, enum string) {
	t.Helper()
	l, err := types.Fields(typ)
	isErr(t, "Fields of "+typ, err, api.ErrMissing)
	f, err := types.Field(typ, 1)
	isErr(t, "Field of "+typ, err, api.ErrMissing)
	i, err := types.Items(enum)
	isErr(t, "Items of "+enum, err, api.ErrMissing)
	if l != nil || f != (check.Field{}) || i != nil {
		t.Errorf("of %s, %s: %v, %v, %v", typ, enum, l, f, i)
	}
}

// 4.3: by full names alone; an enum is no type, and a type no enum.
func TestMissing(t *testing.T) {
	types := linked(t, sample)
	for _, name := range []string{"", ".", "B", "F", "A.", ".A", ".E", "a", "e", "A.F", "B.F", "Z", "int32", "A.B.F.X", "A.a"} {
		areMissing(t, types, name, name)
	}
	for _, name := range []string{"E", "A.B.F"} {
		areMissing(t, types, name, "A")
	}
	for _, name := range types.Names() {
		areMissing(t, types, "E", name)
	}
}

// 4.3: Entry tells the key and the value, and no more of the field.
func TestEntry(t *testing.T) {
	for _, f := range sampleFields() {
		want := [2]check.Field{{Name: "key", Number: 1, Kind: f.Key}, {Name: "value", Number: 2, Kind: f.Kind, Of: f.Of}}
		if got := check.Entry(f); got != want {
			t.Errorf("Entry of %+v: %+v, want %+v", f, got, want)
		}
	}
	got := check.Entry(check.Field{Name: "x", Number: 9, Kind: api.Message, Of: "A.B", Many: true, Key: api.Uint32, Choice: "c"})
	if want := [2]check.Field{{Name: "key", Number: 1, Kind: api.Uint32}, {Name: "value", Number: 2, Kind: api.Message, Of: "A.B"}}; got != want {
		t.Errorf("Entry: %+v", got)
	}
}

// P1: types that nobody linked have nothing, and nothing breaks.
func TestNotLinked(t *testing.T) {
	for _, types := range []*check.Types{nil, {}} {
		if l := types.Names(); len(l) != 0 {
			t.Errorf("Names: %q", l)
		}
		areMissing(t, types, "A", "E")
		areMissing(t, types, "", "")
	}
}

// P1: Link ends, though a type made by hand stands in itself, and takes all that Parse tells.
func TestDepth(t *testing.T) {
	round := []api.TypeDef{{Name: "A"}, {Name: "B"}}
	round[0].Types, round[1].Types = round, round
	if l, err := check.Link(api.TypeDef{Types: round}); l != nil || err == nil {
		t.Errorf("a type in itself: %v, %v", l, err)
	}
	s := ""
	for range api.MaxDepth {
		s = "message A { enum E { X = 0; } " + s + " A a = 1; E e = 2; }"
	}
	types := linked(t, s)
	if got, err := types.Field("A.A.A.A.A.A", 1); err != nil || got.Of != "A.A.A.A.A.A" || len(types.Names()) != api.MaxDepth {
		t.Errorf("the deepest: %+v, %v, of %q", got, err, types.Names())
	}
}

// P1: Link ends, whatever is made by hand.
func TestByHand(t *testing.T) {
	for _, d := range []api.TypeDef{
		{},
		{Name: "A", Fields: []api.Field{{}}, Reserved: []api.Range{{}}},
		{Types: []api.TypeDef{{}, {Name: "."}, {Name: ".."}}},
		{Types: []api.TypeDef{{Types: []api.TypeDef{{Fields: []api.Field{{Number: 1}, {Name: "a", Number: 2, Type: "."}}}}}}},
		{Enums: []api.EnumDef{{}}},
		{Types: []api.TypeDef{{Name: "\xff", Fields: []api.Field{{Name: "\x00", Number: 1 << 62, Type: "\xff", Key: "\xff"}}}}},
	} {
		if l, err := check.Link(d); (l == nil) != (err != nil) {
			t.Errorf("Link of %+v: %v, %v", d, l, err)
		}
	}
}

// P4: what is handed in is not changed, and not kept; what comes out is the caller's.
func TestFresh(t *testing.T) {
	d := parsed(t, sample)
	types, err := check.Link(d)
	if err != nil || !reflect.DeepEqual(d, parsed(t, sample)) {
		t.Fatalf("Link changed it, or: %v", err)
	}
	spoil(&d)
	for range 2 {
		fields, _ := types.Fields("A")
		items, _ := types.Items("E")
		names := types.Names()
		if !slices.Equal(fields, sampleFields()) || items[2].Name != "V1" || items[2].Number != -5 || names[0] != "A" {
			t.Fatalf("%+v, %v, %q", fields, items, names)
		}
		clear(fields)
		clear(items)
		clear(names)
		clear(fields[:cap(fields)])
		clear(items[:cap(items)])
	}
}

// spoil empties all lists of a type.
func spoil(d *api.TypeDef) {
	for i := range d.Types {
		spoil(&d.Types[i])
	}
	for _, e := range d.Enums {
		clear(e.Items)
	}
	clear(d.Types)
	clear(d.Enums)
	clear(d.Fields)
	clear(d.Reserved)
}

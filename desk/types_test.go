package desk_test

import (
	"fmt"
	"strings"
	"testing"

	"sealpress/api"
	"sealpress/parse"
)

// 7.1: types: what stands behind it is defined in the place of what was.
func TestTypes(t *testing.T) {
	isTold(t, `types syntax = "proto3";`, "types")
	isTold(t, `  types   syntax  =  "proto3" ;  message  A  {  }  `, "types")
	isTold(t, lines("types "+head+"message A { }", "fields A", "types "+head+"message B { }", "fields A", "fields B"),
		"types", "fields ", "types", "error 7", "fields ")
	isTold(t, lines("types "+head+"enum E { A = 0; }", "enum E", "types "+head, "enum E"), "types", "enum A 0", "types", "error 7")
	isTold(t, "types "+head+"message A { int32 a = 1; } // message B { }\nfields A\nfields B\n", "types", "fields 1 a 2", "error 7")
	isTold(t, "types // "+head, "error 3")
	isTold(t, "types"+head, "error 3")
	isTold(t, "types message A { }", "error 3")
	isTold(t, "types types "+head, "error 3")
	isTold(t, "types\t"+head, "error 3")
	isTold(t, "types \t"+head, "error 3")
	isTold(t, "types "+head+"\t", "error 3")
}

// 7.1: words of types have one blank between: so a Text with two blanks in it is one with one, and what is wrong stays wrong.
func TestTypesBlanks(t *testing.T) {
	isTold(t, `types syntax = "proto3  ";`, "error 3")
	isTold(t, `types syntax = " proto3";`, "error 3")
	isTold(t, `types syntax = "proto3"; mess age A { }`, "error 3")
}

// 7.1: types on one line alone: what stands on the next one is none of it.
func TestTypesLine(t *testing.T) {
	isTold(t, "types "+head+"message A {\n}\nfields A", "error 3", "error 3", "error 7")
}

// 7.1: nothing is changed by what is wrong, be it Parse's error or Link's.
func TestTypesWrong(t *testing.T) {
	before := []string{"fields 1 a 2", "enum V 0", `syntax = "proto3"; enum E { V = 0; } message A { int32 a = 1; }`, "{1=5}"}
	ask := "fields A\nenum E\nprint\nread A 0805"
	for wrong, number := range map[string]api.Errno{
		head + "message A { int32 b = 1; } x":                   api.ErrForm,
		head + "message B { } $":                                api.ErrForm,
		head + "message ABCDEFGHIJKLMNOPQRSTUVW { }":            api.ErrLimit,
		head + "enum E { V = 1; }":                              api.ErrOrder,
		head + "message A { int32 b = 1; int32 b = 2; }":        api.ErrTwice,
		head + "message A { } message B { X x = 1; }":           api.ErrName,
		head + "enum E { W = 0; } message A { Z z = 1; E e=2;}": api.ErrName,
		"": api.ErrForm,
	} {
		text := "types " + head + "enum E { V = 0; } message A { int32 a = 1; }\n" + ask + "\ntypes " + wrong + "\n" + ask
		var want []string
		want = append(append(append(append(want, "types"), before...), fmt.Sprint("error ", int(number))), before...)
		isTold(t, text, want...)
	}
}

// 7.1: print: one blank in the place of all blanks and line feeds, none at both ends.
func TestPrint(t *testing.T) {
	isTold(t, "print", `syntax = "proto3";`)
	for _, text := range []string{
		head + `message A { }`,
		head + `enum E { A = 0; B = -7; } message A { reserved 3, 5 to 9; enum E { C = 0; } message B { message C { } } repeated A a = 1; map<string, A.B.C> m = 2; oneof x { E e = 4; .E f = 10; } oneof y { A z = 11; } int32 n = 12; }`,
	} {
		want := strings.Join(strings.Fields(text), " ")
		isTold(t, "types "+text+"\nprint\nprint", "types", want, want)
		isTold(t, "types "+strings.ReplaceAll(text, " ", "   ")+"\nprint", "types", want)
	}
	isTold(t, `types syntax="proto3";message B{A a=1;}enum E{X=0;}message A{reserved 2,3 to 4;map<int32,E>m=1;}`+"\nprint",
		"types", `syntax = "proto3"; enum E { X = 0; } message B { A a = 1; } message A { reserved 2, 3 to 4; map<int32, E> m = 1; }`)
}

// 7.1: what print tells defines just what was defined.
func TestPrintBack(t *testing.T) {
	def, err := parse.Parse(strings.TrimPrefix(sample, "types "))
	if err != nil {
		t.Fatal(err)
	}
	printed := strings.Join(strings.Fields(parse.Print(def)), " ")
	isAnswered(t, "print", printed)
	isTold(t, "types "+printed+"\nprint", "types", printed)
}

// 7.1: fields: of each what it is, by their numbers.
func TestFields(t *testing.T) {
	isAnswered(t, "fields A", "fields 1 a 2, 2 b 12 of c, 3 d 15 A of c, 4 e 6 many, 5 f 15 A map 12")
	isAnswered(t, "fields One", "fields 1 b 1, 2 i 3, 3 u 5, 4 e 14 E, 5 s 12, 6 t 13")
	isAnswered(t, "fields Many", "fields 1 n 2 many, 2 s 12 many, 3 m 15 None many")
	isAnswered(t, "fields Map", "fields 1 i 6 map 2, 2 b 15 None map 1")
	isAnswered(t, "fields Wide", "fields 536870911 n 2 many")
	isAnswered(t, "fields In", "fields 1 i 15 In")
	for _, name := range []string{"Z", "E", "a", "A.A", ".A", "A.", "Wide.In", "int32", "-", "\xff"} {
		isAnswered(t, "fields "+name, "error 7")
	}
}

// 7.1: fields: behind the word stands a blank, though there is no field.
func TestFieldsNone(t *testing.T) {
	isAnswered(t, "fields None", "fields ")
	isAnswered(t, "  fields   None  ", "fields ")
}

// 7.1: fields: kinds are told by their numbers, of maps' keys too.
func TestFieldsKinds(t *testing.T) {
	kinds := []string{"bool", "int32", "int64", "uint32", "uint64", "sint32", "sint64", "fixed32", "fixed64", "sfixed32", "sfixed64", "string", "bytes"}
	var def, want strings.Builder
	for i, kind := range kinds {
		fmt.Fprintf(&def, "%s f%d = %d; ", kind, i, i+1)
		fmt.Fprintf(&want, ", %d f%d %d", i+1, i, i+1)
	}
	for i, kind := range kinds[:12] {
		fmt.Fprintf(&def, "map<%s, T.In> m%d = %d; ", kind, i, i+20)
		fmt.Fprintf(&want, ", %d m%d 14 T.In map %d", i+20, i, i+1)
	}
	isTold(t, "types "+head+"message T { enum In { A = 0; } "+def.String()+"}\nfields T", "types", "fields "+want.String()[2:])
}

// 7.1: fields: those of inner types by their full names, and what they are of by its own.
func TestFieldsInner(t *testing.T) {
	def := "message A { message B { message C { } enum E { Z = 0; } C c = 2; A.B b = 1; repeated E e = 3; oneof of { .A many = 4; E map = 5; } } }"
	isTold(t, lines("types "+head+def, "fields A", "fields A.B", "fields A.B.C", "fields B", "fields A.B.E", "enum A.B.E", "enum E"),
		"types", "fields ", "fields 1 b 15 A.B, 2 c 15 A.B.C, 3 e 14 A.B.E many, 4 many 15 A of of, 5 map 14 A.B.E of of", "fields ", "error 7", "error 7", "enum Z 0", "error 7")
}

// 7.1: enum: its items as they stand.
func TestEnum(t *testing.T) {
	isAnswered(t, "enum E", "enum V0 0, V1 1, V2 -5")
	isAnswered(t, "enum Wide.In", "enum I 0")
	isTold(t, "types "+head+"enum E { Z = 0; C = 2147483647; A = -2147483648; B = -1; }\nenum E", "types", "enum Z 0, C 2147483647, A -2147483648, B -1")
	for _, name := range []string{"Z", "A", "In", "None", ".E", "E.", "V0", "E.V0", "-", "bool"} {
		isAnswered(t, "enum "+name, "error 7")
	}
}

package check_test

import (
	"cmp"
	"fmt"
	"math/rand"
	"slices"
	"strings"
	"testing"

	"sealpress/api"
	"sealpress/check"
	"sealpress/parse"
)

// thing is an enum or a type, with its names from the top on.
type thing struct {
	path []string
	enum *api.EnumDef
	def  *api.TypeDef
}

func (x thing) full() string { return strings.Join(x.path, ".") }

// things are all of a type's, in the chapter's order.
func things(d api.TypeDef, path []string) (l []thing) {
	for i, e := range d.Enums {
		l = append(l, thing{path: append(slices.Clone(path), e.Name), enum: &d.Enums[i]})
	}
	for i, t := range d.Types {
		inner := append(slices.Clone(path), t.Name)
		l = append(l, thing{path: inner, def: &d.Types[i]})
		l = append(l, things(t, inner)...)
	}
	return l
}

// wrong is one thing that is wrong, and where it comes among all that are.
type wrong struct {
	place []int
	err   api.Errno
}

// model links by finding all that is wrong, whatever else is, and by looking each thing up one by one.
type model struct {
	all   []thing
	wrong []wrong
}

func modelOf(d api.TypeDef) *model {
	m := &model{all: things(d, nil)}
	for i, x := range m.all {
		m.note(m.find(x.full()) != i || slices.Contains(kindNames(), x.full()), api.ErrTwice, 0, i)
		if x.enum != nil {
			m.enum(x.enum.Items, i)
		} else {
			m.ranges(x.def.Reserved, i)
			for k := range x.def.Fields {
				m.field(x, x.def.Fields, i, k)
			}
		}
	}
	return m
}

func (m *model) note(is bool, err api.Errno, place ...int) {
	if is {
		m.wrong = append(m.wrong, wrong{place, err})
	}
}

// find is the place of the first thing of a full name, or -1.
func (m *model) find(full string) int {
	return slices.IndexFunc(m.all, func(x thing) bool { return x.full() == full })
}

func (m *model) enum(l []api.Item, i int) {
	m.note(len(l) == 0, api.ErrNone, 1, i, 0)
	m.note(len(l) > 0 && l[0].Number != 0, api.ErrOrder, 1, i, 1)
	for k, x := range l {
		m.note(int(int32(x.Number)) != x.Number, api.ErrRange, 1, i, 2+k, 0)
		for _, y := range l[:k] {
			m.note(x.Name == y.Name || x.Number == y.Number, api.ErrTwice, 1, i, 2+k, 1)
		}
	}
}

func (m *model) ranges(l []api.Range, i int) {
	for _, r := range l {
		m.note(r.From < 1 || r.To < r.From || r.To >= 1<<29, api.ErrRange, 1, i, 0)
	}
}

func (m *model) field(x thing, l []api.Field, i, k int) {
	f := l[k]
	m.note(f.Number < 1 || f.Number >= 1<<29 || f.Number/1000 == 19, api.ErrRange, 1, i, 1+k, 0)
	for _, r := range x.def.Reserved {
		m.note(f.Number >= r.From && f.Number <= r.To, api.ErrFalse, 1, i, 1+k, 1)
	}
	for _, y := range l[:k] {
		m.note(f.Name == y.Name || f.Number == y.Number, api.ErrTwice, 1, i, 1+k, 2)
	}
	m.note(!slices.Contains(kindNames(), f.Type) && m.means(x, f.Type) < 0, api.ErrName, 1, i, 1+k, 3)
	m.note(f.Key != "" && (!slices.Contains(kindNames(), f.Key) || f.Key == "bytes"), api.ErrArg, 1, i, 1+k, 4)
}

// means is the place of what a name stands for in a type, or -1.
func (m *model) means(x thing, name string) int {
	if name[0] == '.' {
		return m.find(name[1:])
	}
	found := m.find(name)
	for n := range len(x.path) {
		if inner := m.find(strings.Join(x.path[:n+1], ".") + "." + name); inner >= 0 {
			found = inner
		}
	}
	return found
}

// err is the error of what comes first.
func (m *model) err() api.Errno {
	if len(m.wrong) == 0 {
		return api.OK
	}
	return slices.MinFunc(m.wrong, func(a, b wrong) int { return slices.Compare(a.place, b.place) }).err
}

// fields are a type's, as they are told.
func (m *model) fields(x thing) []check.Field {
	var l []check.Field
	for _, f := range x.def.Fields {
		to := check.Field{Name: f.Name, Number: f.Number, Kind: slices.Index(kindNames(), f.Type) + 1, Many: f.Many, Key: slices.Index(kindNames(), f.Key) + 1, Choice: f.Choice}
		if to.Kind == 0 {
			y := m.all[m.means(x, f.Type)]
			to.Kind, to.Of = api.Message, y.full()
			if y.enum != nil {
				to.Kind = api.Enum
			}
		}
		l = append(l, to)
	}
	slices.SortFunc(l, func(a, b check.Field) int { return cmp.Compare(a.Number, b.Number) })
	return l
}

// told is all that linked types tell, by the model, of its own things.
func (m *model) told() string {
	var types []string
	all := map[string]string{}
	for _, x := range m.all {
		if x.enum != nil {
			all[x.full()] = fmt.Sprint("enum ", x.enum.Items)
		} else {
			types = append(types, x.full())
			all[x.full()] = fmt.Sprintf("%+v", m.fields(x))
		}
	}
	slices.Sort(types)
	return fmt.Sprint(types, all)
}

// tell is the same by what was linked.
func tell(t *testing.T, types *check.Types, m *model) string {
	all := map[string]string{}
	for _, x := range m.all {
		name := x.full()
		items, noEnum := types.Items(name)
		fields, noType := types.Fields(name)
		if noEnum == nil {
			all[name] = fmt.Sprint("enum ", items)
		} else {
			all[name] = fmt.Sprintf("%+v", fields)
		}
		if (noEnum == nil) == (noType == nil) {
			t.Errorf("%s: both, or none", name)
		}
		for _, f := range fields {
			if one, err := types.Field(name, f.Number); err != nil || one != f {
				t.Errorf("Field %d of %s: %+v, %v", f.Number, name, one, err)
			}
		}
	}
	return fmt.Sprint(types.Names(), all)
}

// isAsModel fails unless Link tells what the model tells.
func isAsModel(t *testing.T, d api.TypeDef) api.Errno {
	t.Helper()
	m := modelOf(d)
	types, err := check.Link(d)
	if got, want := api.Tell(err), m.err(); got != want || (types == nil) != (want != api.OK) {
		t.Fatalf("Link of\n%s: error %d, want %d", parse.Print(d), got, want)
	}
	if err == nil {
		if got, want := tell(t, types, m), m.told(); got != want {
			t.Fatalf("Link of\n%s:\n%s, want\n%s", parse.Print(d), got, want)
		}
	}
	return api.Tell(err)
}

// drawing draws types.
type drawing struct {
	*rand.Rand
	off int // of so many one is wrong
}

func (d drawing) of(l ...string) string { return l[d.Intn(len(l))] }

func (d drawing) wrong() bool { return d.Intn(d.off) == 0 }

// name is one that stands nowhere else in the same, unless it is wrong.
func (d drawing) name(ahead int) string {
	if d.wrong() {
		return d.of("A", "B", "int32", "bytes", "E")
	}
	return string(rune('A' + ahead))
}

func (d drawing) typ() string {
	if d.Intn(2) == 0 {
		return d.of(kindNames()...)
	}
	l := make([]string, 1+d.Intn(3))
	for i := range l {
		l[i] = d.of("A", "A", "B", "B", "C", "D")
	}
	return d.of("", "", ".") + strings.Join(l, ".")
}

func (d drawing) number(n int) int {
	if d.wrong() {
		return [...]int{0, -1, 1, 2, 5, 40, 18999, 19000, 19999, 20000, 1<<29 - 1, 1 << 29, 1 << 31, 1<<31 - 1, -1 << 31, -1<<31 - 1, 9999999999}[d.Intn(17)]
	}
	return n
}

func (d drawing) enum(ahead int) api.EnumDef {
	e := api.EnumDef{Name: d.name(ahead)}
	many := 1 + d.Intn(3)
	if d.wrong() {
		many = 0
	}
	for i := range many {
		e.Items = append(e.Items, api.Item{Name: d.name(i), Number: d.number(i)})
	}
	return e
}

func (d drawing) field(ahead int) api.Field {
	f := api.Field{Name: d.name(ahead), Number: d.number(ahead*7%31 + 1), Type: d.typ()}
	switch d.Intn(4) {
	case 0:
		f.Many = true
	case 1:
		f.Key = d.of(kindNames()[:12]...)
		if d.wrong() {
			f.Key = d.of("bytes", "A", ".string", "E")
		}
	case 2:
		f.Choice = d.of("c", "d")
	}
	return f
}

func (d drawing) typeDef(depth int) (t api.TypeDef) {
	for range d.Intn(4 - depth) {
		if d.Intn(3) == 0 {
			t.Enums = append(t.Enums, d.enum(len(t.Enums)+len(t.Types)))
			continue
		}
		inner := d.typeDef(depth + 1)
		inner.Name = d.name(len(t.Enums) + len(t.Types))
		t.Types = append(t.Types, inner)
	}
	if depth == 0 {
		return t
	}
	for i := range d.Intn(4) {
		t.Fields = append(t.Fields, d.field(i))
	}
	for range d.Intn(4) {
		from := d.number(40)
		t.Reserved = append(t.Reserved, api.Range{From: from, To: max(from, d.number(40)) - d.Intn(d.off)/(d.off-1)})
	}
	return t
}

// 4.1, 4.2, 4.3: of drawn types, wrong ones and right ones, Link tells what the model tells.
func TestDrawn(t *testing.T) {
	var many [20]int
	for seed := range int64(20000) {
		d := drawing{rand.New(rand.NewSource(seed)), 4 + int(seed%5)*30}
		many[isAsModel(t, d.typeDef(0))]++
	}
	for _, e := range []api.Errno{api.OK, api.ErrTwice, api.ErrNone, api.ErrOrder, api.ErrRange, api.ErrFalse, api.ErrName, api.ErrArg} {
		if many[e] < 50 {
			t.Errorf("error %d was drawn %d times", e, many[e])
		}
	}
}

// P1, 4.1, 4.2, 4.3: of whatever Parse tells, Link tells what the model tells.
func FuzzLink(f *testing.F) {
	for _, s := range []string{
		"", sample, "message A { message B { C.D x = 1; .B y = 2; } } message B { message C { enum D { X = 0; } } }",
		"enum E { A = 0; B = 2147483648; }", "message A { reserved 1, 5 to 9; map<bytes, A> a = 7; oneof c { int32 b = 19999; } }",
	} {
		f.Add(head + s)
	}
	f.Fuzz(func(t *testing.T, s string) {
		if d, err := parse.Parse(s); err == nil {
			isAsModel(t, d)
		}
	})
}

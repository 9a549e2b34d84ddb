package check

import (
	"cmp"
	"math"
	"slices"
	"strings"

	"sealpress/api"
)

// No field may have a number from the first to the last of these.
const firstKept, lastKept = 19000, 19999

// kindNames are the kinds' names, at their numbers. At 0 is none.
var kindNames = [...]string{
	api.Bool:     "bool",
	api.Int32:    "int32",
	api.Int64:    "int64",
	api.Uint32:   "uint32",
	api.Uint64:   "uint64",
	api.Sint32:   "sint32",
	api.Sint64:   "sint64",
	api.Fixed32:  "fixed32",
	api.Fixed64:  "fixed64",
	api.Sfixed32: "sfixed32",
	api.Sfixed64: "sfixed64",
	api.String:   "string",
	api.Bytes:    "bytes",
}

// kindOf is the kind of a name, 0 of others.
func kindOf(name string) int {
	for kind := api.Bool; kind < len(kindNames); kind++ {
		if kindNames[kind] == name {
			return kind
		}
	}
	return 0
}

// Link is what is defined, as it is (of what parse told). ErrTwice: two have one full name, or that of a kind; then, depth first, the errors of enums, reserved ranges, fields.
func Link(d api.TypeDef) (*Types, error) {
	l := linker{kinds: map[string]int{}}
	if err := l.gather(d, -1, 0); err != nil {
		return nil, err
	}
	t := &Types{fields: map[string][]Field{}, items: map[string][]api.Item{}}
	for i, x := range l.all {
		if err := l.link(t, i, x); err != nil {
			return nil, err
		}
	}
	return t, nil
}

// defined is an enum or a type, with its full name, and the place of the type in which it stands (-1: at the top).
type defined struct {
	name  string
	kind  int // api.Enum, or api.Message
	outer int
	items []api.Item
	def   api.TypeDef
}

// linker has all that is defined, in the order in which what is wrong with it is told.
type linker struct {
	all   []defined
	kinds map[string]int // of each full name
}

// gather takes what stands in a type that is at that place, and that stands in so many others. ErrTwice.
func (l *linker) gather(d api.TypeDef, place, depth int) error {
	for _, e := range d.Enums {
		if err := l.add(e.Name, defined{kind: api.Enum, outer: place, items: e.Items}); err != nil {
			return err
		}
	}
	for _, t := range d.Types {
		// Parse tells none so deep: a type that is made by hand may stand in itself, and would never end.
		if depth >= api.MaxDepth {
			return api.ErrLimit
		}
		if err := l.add(t.Name, defined{kind: api.Message, outer: place, def: t}); err != nil {
			return err
		}
		if err := l.gather(t, len(l.all)-1, depth+1); err != nil {
			return err
		}
	}
	return nil
}

// add takes one, of which the own name is told. ErrTwice.
func (l *linker) add(own string, x defined) error {
	x.name = own
	if x.outer >= 0 {
		x.name = l.all[x.outer].name + "." + own
	}
	if kindOf(x.name) != 0 || l.kinds[x.name] != 0 {
		return api.ErrTwice
	}
	l.kinds[x.name] = x.kind
	l.all = append(l.all, x)
	return nil
}

// link lays one of them, which is at that place, among the types.
func (l *linker) link(t *Types, place int, x defined) error {
	if x.kind == api.Enum {
		t.items[x.name] = slices.Clone(x.items)
		return wrongItems(x.items)
	}
	fields, err := l.fields(place, x.def)
	t.fields[x.name] = fields
	return err
}

// wrongItems is what is wrong with an enum's items.
func wrongItems(items []api.Item) error {
	if len(items) == 0 {
		return api.ErrNone
	}
	if items[0].Number != 0 {
		return api.ErrOrder
	}
	names, numbers := ahead[string](), ahead[int]()
	for _, x := range items {
		if x.Number < math.MinInt32 || x.Number > math.MaxInt32 {
			return api.ErrRange
		}
		if names(x.Name) || numbers(x.Number) {
			return api.ErrTwice
		}
	}
	return nil
}

// wrongRange says whether a range may not be.
func wrongRange(r api.Range) bool {
	return r.From < 1 || r.To > api.MaxNumber || r.From > r.To
}

// ahead makes a function that says whether it was asked of the same already.
func ahead[K comparable]() func(K) bool {
	asked := map[K]struct{}{}
	return func(k K) bool {
		_, twice := asked[k]
		asked[k] = struct{}{}
		return twice
	}
}

// fields are those of the type at that place, by their numbers, or what is wrong with its ranges, or with them.
func (l *linker) fields(place int, d api.TypeDef) ([]Field, error) {
	if slices.ContainsFunc(d.Reserved, wrongRange) {
		return nil, api.ErrRange
	}
	var all []Field
	names, numbers := ahead[string](), ahead[int]()
	for _, f := range d.Fields {
		if err := wrongNumber(f.Number, d.Reserved); err != nil {
			return nil, err
		}
		if names(f.Name) || numbers(f.Number) {
			return nil, api.ErrTwice
		}
		linked, err := l.field(place, f)
		if err != nil {
			return nil, err
		}
		all = append(all, linked)
	}
	slices.SortFunc(all, func(a, b Field) int { return cmp.Compare(a.Number, b.Number) })
	return all, nil
}

// wrongNumber is what is wrong with a field's number by itself.
func wrongNumber(n int, reserved []api.Range) error {
	if n < 1 || n > api.MaxNumber || n >= firstKept && n <= lastKept {
		return api.ErrRange
	}
	if slices.ContainsFunc(reserved, func(r api.Range) bool { return r.From <= n && n <= r.To }) {
		return api.ErrFalse
	}
	return nil
}

// field is one of the type at that place, with what its names stand for. ErrName, ErrArg.
func (l *linker) field(place int, f api.Field) (Field, error) {
	linked := Field{Name: f.Name, Number: f.Number, Kind: kindOf(f.Type), Many: f.Many, Choice: f.Choice}
	if linked.Kind == 0 {
		linked.Of = l.standsFor(place, f.Type)
		linked.Kind = l.kinds[linked.Of]
	}
	if linked.Kind == 0 {
		return Field{}, api.ErrName
	}
	if f.Key == "" {
		return linked, nil
	}
	linked.Key = kindOf(f.Key)
	if linked.Key == 0 || linked.Key == api.Bytes {
		return Field{}, api.ErrArg
	}
	return linked, nil
}

// standsFor is the full name that a name may stand for, in the type at that place; there need be nothing of it.
func (l *linker) standsFor(place int, name string) string {
	if full, ok := strings.CutPrefix(name, "."); ok {
		return full
	}
	for ; place >= 0; place = l.all[place].outer {
		full := l.all[place].name + "." + name
		if l.kinds[full] != 0 {
			return full
		}
	}
	return name
}

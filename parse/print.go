package parse

import (
	"strconv"
	"strings"

	"sealpress/api"
)

// Print is a text that defines just that (of what Parse told).
func Print(t api.TypeDef) string {
	var p printer
	p.line(`syntax = "proto3";`)
	p.defined(t)
	return p.String()
}

// printer builds a text; in is how many braces are open.
type printer struct {
	strings.Builder
	in int
}

// line writes a line, as far in as the open braces ask.
func (p *printer) line(parts ...string) {
	for range p.in {
		p.WriteString("  ")
	}
	for _, s := range parts {
		p.WriteString(s)
	}
	p.WriteString("\n")
}

// open begins what stands in braces.
func (p *printer) open(what, name string) {
	p.line(what, " ", name, " {")
	p.in++
}

// end ends what open began.
func (p *printer) end() {
	p.in--
	p.line("}")
}

// defined writes the enums and types that stand in a type.
func (p *printer) defined(t api.TypeDef) {
	for _, e := range t.Enums {
		p.enum(e)
	}
	for _, inner := range t.Types {
		p.message(inner)
	}
}

func (p *printer) enum(e api.EnumDef) {
	p.open("enum", e.Name)
	for _, i := range e.Items {
		p.line(i.Name, " = ", strconv.Itoa(i.Number), ";")
	}
	p.end()
}

func (p *printer) message(t api.TypeDef) {
	// Parse tells none that stands as deep. A type made by hand may stand in itself, by its list: it would have no end.
	if p.in >= api.MaxDepth {
		return
	}
	p.open("message", t.Name)
	p.reserved(t.Reserved)
	p.defined(t)
	p.fields(t.Fields)
	p.end()
}

func (p *printer) reserved(l []api.Range) {
	if len(l) == 0 {
		return
	}
	var texts []string
	for _, r := range l {
		texts = append(texts, rangeText(r))
	}
	p.line("reserved ", strings.Join(texts, ", "), ";")
}

func rangeText(r api.Range) string {
	if r.From == r.To {
		return strconv.Itoa(r.From)
	}
	return strconv.Itoa(r.From) + " to " + strconv.Itoa(r.To)
}

// fields writes fields, those of one choice that follow each other in its braces.
func (p *printer) fields(l []api.Field) {
	for i, f := range l {
		if f.Choice != "" && (i == 0 || l[i-1].Choice != f.Choice) {
			p.open("oneof", f.Choice)
		}
		p.line(typeText(f), " ", f.Name, " = ", strconv.Itoa(f.Number), ";")
		if f.Choice != "" && (i == len(l)-1 || l[i+1].Choice != f.Choice) {
			p.end()
		}
	}
}

// typeText is what stands ahead of a field's name.
func typeText(f api.Field) string {
	switch {
	case f.Key != "":
		return "map<" + f.Key + ", " + f.Type + ">"
	case f.Many:
		return "repeated " + f.Type
	}
	return f.Type
}

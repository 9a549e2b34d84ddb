package desk

import (
	"maps"
	"slices"
	"strconv"
	"strings"

	"sealpress/api"
	"sealpress/check"
	"sealpress/code"
	"sealpress/merge"
	"sealpress/parse"
)

// desk is what lines are asked of: what was defined last, and its types.
type desk struct {
	def   api.TypeDef
	types *check.Types
}

// act is what a line does, of the words behind its first one: it tells the answer, or throws.
type act func(words []string) string

// acts are what lines do, by their first words.
func (d *desk) acts() map[string]act {
	return map[string]act{
		"types":  d.define,
		"print":  d.print,
		"fields": d.fields,
		"enum":   d.enum,
		"read":   d.read,
		"canon":  d.canon,
		"merge":  d.merge,
		"join":   d.join,
		"help":   d.help,
	}
}

func (d *desk) define(words []string) string {
	def, err := parse.Parse(strings.Join(words, " "))
	throw(err)
	types, err := check.Link(def)
	throw(err)
	// Only here, as nothing is changed by what is wrong.
	d.def, d.types = def, types
	return "types"
}

func (d *desk) print(words []string) string {
	want(words, 0)
	return strings.Join(strings.FieldsFunc(parse.Print(d.def), isGap), " ")
}

func (d *desk) fields(words []string) string {
	want(words, 1)
	all, err := d.types.Fields(words[0])
	throw(err)
	told := make([]string, len(all))
	for i, f := range all {
		told[i] = fieldText(f)
	}
	return "fields " + strings.Join(told, ", ")
}

func (d *desk) enum(words []string) string {
	want(words, 1)
	all, err := d.types.Items(words[0])
	throw(err)
	told := make([]string, len(all))
	for i, item := range all {
		told[i] = item.Name + " " + strconv.Itoa(item.Number)
	}
	return "enum " + strings.Join(told, ", ")
}

func (d *desk) read(words []string) string {
	want(words, 2)
	return messageText(d.message(words[0], bytesOf(words[1])))
}

func (d *desk) canon(words []string) string {
	want(words, 2)
	b, err := code.Encode(d.types, words[0], d.message(words[0], bytesOf(words[1])))
	throw(err)
	return bytesText(string(b))
}

func (d *desk) merge(words []string) string {
	want(words, 3)
	// One by one: what is wrong with the first message comes ahead of what is wrong with the second one's bytes.
	a := d.message(words[0], bytesOf(words[1]))
	b := d.message(words[0], bytesOf(words[2]))
	m, err := merge.Merge(d.types, words[0], a, b)
	throw(err)
	return messageText(m)
}

func (d *desk) join(words []string) string {
	want(words, 3)
	a := bytesOf(words[1])
	b := bytesOf(words[2])
	return messageText(d.message(words[0], append(a, b...)))
}

func (d *desk) help(words []string) string {
	want(words, 0)
	return strings.Join(slices.Sorted(maps.Keys(d.acts())), " ")
}

// message is what bytes are as one of a type.
func (d *desk) message(name string, b []byte) *api.Msg {
	m, err := code.Decode(d.types, name, b)
	throw(err)
	return m
}

// want throws unless there are just so many words.
func want(words []string, many int) {
	if len(words) != many {
		throw(api.ErrForm)
	}
}

package desk

import (
	"strconv"
	"strings"

	"sealpress/api"
	"sealpress/check"
)

// none is what no bytes are as text.
const none = "-"

// digits are those of half a byte, by what they are.
const digits = "0123456789abcdef"

// bytesOf are the bytes that a word tells.
func bytesOf(word string) []byte {
	if word == none {
		return nil
	}
	if len(word)%2 != 0 {
		throw(api.ErrForm)
	}
	b := make([]byte, len(word)/2)
	for i := range b {
		b[i] = half(word[2*i])<<4 | half(word[2*i+1])
	}
	return b
}

// half is what a digit of half a byte is.
func half(digit byte) byte {
	n := strings.IndexByte(digits, digit)
	if n < 0 {
		throw(api.ErrForm)
	}
	return byte(n)
}

// bytesText is bytes as a word.
func bytesText(b string) string {
	if b == "" {
		return none
	}
	var out strings.Builder
	for i := range len(b) {
		out.WriteByte(digits[b[i]>>4])
		out.WriteByte(digits[b[i]&15])
	}
	return out.String()
}

// fieldText is a field of a type as words.
func fieldText(f check.Field) string {
	words := []string{strconv.Itoa(f.Number), f.Name, strconv.Itoa(f.Kind)}
	if f.Of != "" {
		words = append(words, f.Of)
	}
	if f.Key != 0 {
		words = append(words, "map", strconv.Itoa(f.Key))
	}
	if f.Many {
		words = append(words, "many")
	}
	if f.Choice != "" {
		words = append(words, "of", f.Choice)
	}
	return strings.Join(words, " ")
}

// messageText is a message as text.
func messageText(m *api.Msg) string {
	var parts []string
	for _, p := range m.Fields {
		for _, v := range p.Values {
			parts = append(parts, strconv.Itoa(p.Number)+"="+valueText(v))
		}
	}
	if m.Rest != "" {
		parts = append(parts, "x"+bytesText(m.Rest))
	}
	return "{" + strings.Join(parts, " ") + "}"
}

// valueText is a value as text. An empty Text is told as the 0 that stands beside it.
func valueText(v api.Value) string {
	switch {
	case v.Sub != nil:
		return messageText(v.Sub)
	case v.Text != "":
		return "x" + bytesText(v.Text)
	}
	return strconv.FormatUint(v.Num, 10)
}

// Package wire: numbers and lengths, byte by byte.
package wire

import (
	"bytes"
	"math/bits"

	"sealpress/api"
)

// Forms of what a number stands ahead of.
const (
	Varint = iota
	Eight
	Length
	_
	_
	Four
)

const (
	formBits  = 3  // of a tag, below the number
	maxForm   = 7  // what formBits hold
	maxFixed  = 8  // bytes of a number
	maxVarint = 10 // bytes of 64 bits, seven a byte
	moreBytes = 128
)

// Piece is a field as it stands: its number, its form, its number or bytes, and how long it is.
type Piece struct {
	Number, Form int
	Num          uint64
	Bytes        []byte
	Long         int
}

// PutVarint writes a number: seven bits a byte, the least ones first, 128 added to all but the last one.
func PutVarint(b []byte, n uint64) []byte {
	for range Size(n) - 1 {
		b = append(b, byte(n)|moreBytes)
		n >>= 7
	}
	return append(b, byte(n))
}

// Size is how many bytes PutVarint writes.
func Size(n uint64) int {
	// 0 has no bits, but is a byte as well.
	return (bits.Len64(n|1) + 6) / 7
}

// GetVarint reads a number of at most ten bytes (of the tenth one the least bit alone; more bytes than it needs may be): it, and how many bytes. ErrForm.
func GetVarint(b []byte) (uint64, int, error) {
	var n uint64
	for i := range min(len(b), maxVarint) {
		// Nine bytes hold 63 bits: the tenth one has room for one more.
		if i == maxVarint-1 && b[i] > 1 {
			break
		}
		n |= uint64(b[i]&^moreBytes) << (7 * i)
		if b[i] < moreBytes {
			return n, i + 1, nil
		}
	}
	return 0, 0, api.ErrForm
}

// Zig turns a number, so that those near 0 are small; Zag turns it back.
func Zig(n int64) uint64 {
	if n >= 0 {
		return uint64(n) * 2
	}
	return uint64(-1-n)*2 + 1
}

// Zag turns a number back.
func Zag(n uint64) int64 {
	half := int64(n / 2)
	if n%2 == 0 {
		return half
	}
	return -1 - half
}

// PutFixed writes the least so many bytes of a number, the least one first.
func PutFixed(b []byte, n uint64, many int) []byte {
	for i := range min(max(many, 0), maxFixed) {
		b = append(b, byte(n>>(8*i)))
	}
	return b
}

// PutTag writes a field's number (from 1 to MaxNumber), and the form (from 0 to 7). Of others it writes nothing: no bytes are their tag.
func PutTag(b []byte, number, form int) []byte {
	if number < 1 || number > api.MaxNumber || form < 0 || form > maxForm {
		return b
	}
	return PutVarint(b, uint64(number)<<formBits|uint64(form))
}

// Next reads the first field. ErrForm: there is none: a number that is not from 1 to MaxNumber, a form of no kind, or too few bytes.
func Next(b []byte) (Piece, error) {
	number, form, long, err := getTag(b)
	if err != nil {
		return Piece{}, err
	}
	p := Piece{Number: number, Form: form}
	behind := b[long:]
	var more int
	switch form {
	case Varint:
		p.Num, more, err = GetVarint(behind)
	case Eight:
		p.Num, more, err = getFixed(behind, 8)
	case Four:
		p.Num, more, err = getFixed(behind, 4)
	case Length:
		p.Bytes, more, err = getBytes(behind)
	default:
		err = api.ErrForm
	}
	if err != nil {
		return Piece{}, err
	}
	p.Long = long + more
	return p, nil
}

// Split reads all fields. ErrForm.
func Split(b []byte) ([]Piece, error) {
	var pieces []Piece
	for len(b) > 0 {
		p, err := Next(b)
		if err != nil {
			return nil, err
		}
		pieces = append(pieces, p)
		b = b[p.Long:]
	}
	return pieces, nil
}

// getTag reads a field's number and the form, and how many bytes both have.
func getTag(b []byte) (number, form, long int, err error) {
	tag, long, err := GetVarint(b)
	if err != nil {
		return 0, 0, 0, err
	}
	// Held against the bound as 64 bits: as an int a great tag might be cut to a number that may be.
	wide := tag >> formBits
	if wide < 1 || wide > api.MaxNumber {
		return 0, 0, 0, api.ErrForm
	}
	return int(wide), int(tag & maxForm), long, nil
}

// getFixed reads a number of so many bytes, the least one first.
func getFixed(b []byte, many int) (uint64, int, error) {
	if len(b) < many {
		return 0, 0, api.ErrForm
	}
	var n uint64
	for i := range many {
		n |= uint64(b[i]) << (8 * i)
	}
	return n, many, nil
}

// getBytes reads a length and so many bytes, as a list of their own, and how many bytes both have.
func getBytes(b []byte) ([]byte, int, error) {
	length, long, err := GetVarint(b)
	if err != nil {
		return nil, 0, err
	}
	// Held against the rest as 64 bits: a great length would be below 0 as an int.
	if length > uint64(len(b)-long) {
		return nil, 0, api.ErrForm
	}
	end := long + int(length)
	return bytes.Clone(b[long:end]), end, nil
}

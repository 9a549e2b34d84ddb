// Package keys: in which order things stand in a map. It stands beside the layers, as more than one of them asks it.
package keys

import (
	"cmp"

	"sealpress/api"
)

// Compare tells which one of two things that may stand in a map, with keys of a kind, comes first: below 0, if it is a; 0, if their keys are the same.
func Compare(kind int, a, b api.Value) int {
	x, y := keyOf(a), keyOf(b)
	switch kind {
	case api.String:
		return cmp.Compare(x.Text, y.Text)
	case api.Bool, api.Uint32, api.Uint64, api.Fixed32, api.Fixed64:
		return cmp.Compare(x.Num, y.Num)
	}
	return cmp.Compare(int64(x.Num), int64(y.Num))
}

// keyOf is the key of what stands in a map.
func keyOf(v api.Value) api.Value { return v.Sub.Fields[0].Values[0] }

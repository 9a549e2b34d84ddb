package keys_test

import (
	"cmp"
	"testing"

	"sealpress/api"
	"sealpress/keys"
)

// entry is what stands in a map by a key.
func entry(key api.Value) api.Value {
	return api.Value{Sub: &api.Msg{Fields: []api.Part{
		{Number: 1, Values: []api.Value{key}},
		{Number: 2, Values: []api.Value{{Num: 7}}},
	}}}
}

// 5.2: of String byte by byte, of Bool, Uint32, Uint64, Fixed32, Fixed64 as they are, of others with their signs.
func TestCompare(t *testing.T) {
	number := func(l ...int64) (keys []api.Value) {
		for _, n := range l {
			keys = append(keys, api.Value{Num: uint64(n)})
		}
		return keys
	}
	var texts []api.Value
	for _, s := range []string{"", "\x00", "10", "9", "B", "a", "aa", "b", "\x7f"} {
		texts = append(texts, api.Value{Text: s})
	}
	short, long := number(-1<<31, -2, -1, 0, 1, 2, 1<<31-1), number(-1<<63, -1<<31-1, -1, 0, 1, 1<<31, 1<<63-1)
	without, big := number(0, 1, 1<<31-1, 1<<31, 1<<32-1), number(0, 1, 1<<32, 1<<63-1, -1<<63, -2, -1)
	for kind, rising := range map[int][]api.Value{
		api.String: texts, api.Bool: number(0, 1),
		api.Int32: short, api.Sint32: short, api.Sfixed32: short,
		api.Int64: long, api.Sint64: long, api.Sfixed64: long,
		api.Uint32: without, api.Fixed32: without, api.Uint64: big, api.Fixed64: big,
	} {
		for i, a := range rising {
			for k, b := range rising {
				got := keys.Compare(kind, entry(a), entry(b))
				if cmp.Compare(got, 0) != cmp.Compare(i, k) {
					t.Errorf("keys of kind %d: %v beside %v: %d", kind, a, b, got)
				}
			}
		}
	}
}

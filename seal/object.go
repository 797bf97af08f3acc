package seal

import (
	"slices"
	"strings"

	"bagnall/api"
)

// The functions of this file expect values that json.Check has accepted: keys
// are in order, and only an Object has any.

// without returns the object v without the keys to omit.
func without(v api.Value, omit ...string) api.Value {
	rest := api.Value{Kind: api.Object}
	for i, key := range v.Keys {
		if !slices.Contains(omit, key) {
			rest.Keys = append(rest.Keys, key)
			rest.Parts = append(rest.Parts, v.Parts[i])
		}
	}
	return rest
}

// find returns the value at the end of the keys, each of which is a key of the
// value at the one before it.
func find(v api.Value, keys []string) (api.Value, bool) {
	for _, key := range keys {
		at, found := slices.BinarySearch(v.Keys, key)
		if !found {
			return api.Value{}, false
		}
		v = v.Parts[at]
	}
	return v, true
}

// store puts end where find looks for it, and creates the objects that are
// missing on the way. It changes the lists of v, so v must be a clone.
func store(v api.Value, keys []string, end api.Value) api.Value {
	if len(keys) == 0 {
		return end
	}
	at, found := slices.BinarySearch(v.Keys, keys[0])
	if !found {
		v.Keys = slices.Insert(v.Keys, at, strings.Clone(keys[0]))
		v.Parts = slices.Insert(v.Parts, at, api.Value{Kind: api.Object})
	}
	v.Parts[at] = store(v.Parts[at], keys[1:], end)
	return v
}

// clone returns a copy of v that shares no memory with it.
func clone(v api.Value) api.Value {
	c := api.Value{Kind: v.Kind, Num: v.Num, Text: strings.Clone(v.Text)}
	for _, key := range v.Keys {
		c.Keys = append(c.Keys, strings.Clone(key))
	}
	for _, part := range v.Parts {
		c.Parts = append(c.Parts, clone(part))
	}
	return c
}

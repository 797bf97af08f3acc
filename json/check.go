package json

import "bagnall/api"

// check returns the first error, in preorder, of v, which is nested in depth
// others. Until there is one, it adds the values to nodes.
func check(v api.Value, depth int, nodes *int) api.Errno {
	if e := checkAlone(v, depth); e != api.OK {
		return e
	}
	*nodes++
	for _, part := range v.Parts {
		if e := check(part, depth+1, nodes); e != api.OK {
			return e
		}
	}
	return api.OK
}

// checkAlone returns the error of v without its parts.
func checkAlone(v api.Value, depth int) api.Errno {
	switch {
	case depth >= api.MaxDeep:
		return api.ErrDeep
	case v.Kind < api.Null || v.Kind > api.Object:
		return api.ErrKind
	case hasUnused(v):
		return api.ErrForm
	case v.Kind == api.Object && (len(v.Keys) != len(v.Parts) || !increasing(v.Keys)):
		return api.ErrForm
	case v.Num <= -api.MaxNumber || v.Num >= api.MaxNumber:
		return api.ErrRange
	}
	return api.OK
}

// hasUnused reports whether v has something in a field that its kind does not
// use.
func hasUnused(v api.Value) bool {
	return v.Num != 0 && v.Kind != api.Number ||
		v.Text != "" && v.Kind != api.String ||
		len(v.Keys) > 0 && v.Kind != api.Object ||
		len(v.Parts) > 0 && v.Kind != api.Array && v.Kind != api.Object
}

func increasing(keys []string) bool {
	for i := 1; i < len(keys); i++ {
		if keys[i-1] >= keys[i] {
			return false
		}
	}
	return true
}

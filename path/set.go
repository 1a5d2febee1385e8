package path

import (
	"slices"

	"coffret/api"
	"coffret/value"
)

// set is v with x at the parts. Only what lies on the way is new memory.
func set(v api.Value, parts []string, x api.Value) (api.Value, api.Errno) {
	if len(parts) == 0 {
		return x, api.OK
	}
	v, at, e := withRoom(v, parts[0])
	if e != api.OK {
		return api.Value{}, e
	}
	x, e = set(below(v, at), parts[1:], x)
	if e != api.OK {
		return api.Value{}, e
	}
	return replaced(v, at, x), api.OK
}

// withRoom is v with something to which the part leads, and where it stands: if v has nothing there, a document without fields.
func withRoom(v api.Value, part string) (api.Value, int, api.Errno) {
	if at := stand(v, part); at >= 0 {
		return v, at, api.OK
	}
	switch v.Kind {
	case api.KindDoc:
		bare := api.Value{Kind: api.KindDoc}
		v.Doc = append(slices.Clip(v.Doc), api.Field{Name: part, Value: bare})
		return v, len(v.Doc) - 1, api.OK
	case api.KindList:
		return padded(v, place(part))
	}
	return api.Value{}, 0, api.ErrBlocked
}

// padded is a list with a document without fields at a place that it lacks, and that place.
func padded(v api.Value, at int) (api.Value, int, api.Errno) {
	if at < 0 {
		return api.Value{}, 0, api.ErrBlocked
	}
	if at+1-len(v.List) > api.MaxPad {
		return api.Value{}, 0, api.ErrPad
	}
	v.List = slices.Clip(v.List)
	for len(v.List) < at {
		v.List = append(v.List, api.Value{Kind: api.KindNull})
	}
	v.List = append(v.List, api.Value{Kind: api.KindDoc})
	return v, at, api.OK
}

// replaced is v with x there. Only its own list is new memory.
func replaced(v api.Value, at int, x api.Value) api.Value {
	if v.Kind == api.KindDoc {
		v.Doc = slices.Clone(v.Doc)
		v.Doc[at].Value = x
	} else {
		v.List = slices.Clone(v.List)
		v.List[at] = x
	}
	return v
}

// unset is v without what stands at the parts, of which there are some. Only what lies on the way is new memory.
func unset(v api.Value, parts []string) api.Value {
	at := stand(v, parts[0])
	if at < 0 {
		return v
	}
	if len(parts) > 1 {
		return replaced(v, at, unset(below(v, at), parts[1:]))
	}
	if v.Kind == api.KindDoc {
		return value.Without(v, parts[0]) // a second field of that name would be found behind the first one
	}
	return replaced(v, at, api.Value{Kind: api.KindNull})
}

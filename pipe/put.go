package pipe

import (
	"slices"
	"strconv"

	"coffret/api"
)

// maxDigits is how many digits a place has at most.
const maxDigits = 9

// put is path.Set of a value that nobody else holds, done where it stands: to make a document anew for each of many paths would take as long as it is, each time.
func put(v *api.Value, parts []string, x api.Value) api.Errno {
	for _, part := range parts {
		below, e := room(v, part)
		if e != api.OK {
			return e
		}
		v = below
	}
	*v = x
	return api.OK
}

// room is where a part leads to; if nothing stands there, a document without fields is put there.
func room(v *api.Value, part string) (*api.Value, api.Errno) {
	switch v.Kind {
	case api.KindDoc:
		n := slices.IndexFunc(v.Doc, func(f api.Field) bool { return f.Name == part })
		if n < 0 {
			n = len(v.Doc)
			v.Doc = append(v.Doc, api.Field{Name: part, Value: bare()})
		}
		return &v.Doc[n].Value, api.OK
	case api.KindList:
		return element(v, place(part))
	}
	return nil, api.ErrBlocked
}

// element is room of a list.
func element(v *api.Value, n int) (*api.Value, api.Errno) {
	switch {
	case n < 0:
		return nil, api.ErrBlocked
	case n < len(v.List):
		return &v.List[n], api.OK
	case n-len(v.List) >= api.MaxPad:
		return nil, api.ErrPad
	}
	for len(v.List) < n {
		v.List = append(v.List, null())
	}
	v.List = append(v.List, bare())
	return &v.List[n], api.OK
}

// place is the number that a part is; below 0: it is no place.
func place(part string) int {
	n, err := strconv.Atoi(part)
	if err != nil || len(part) > maxDigits || strconv.Itoa(n) != part {
		return -1
	}
	return n
}

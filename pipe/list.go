package pipe

import (
	"coffret/api"
	"coffret/path"
)

// unwind is `$unwind`: whether a document without elements is kept.
type unwind struct {
	parts []string
	keep  bool
}

func (u unwind) of(d api.Value, to *made) api.Errno {
	v, _ := path.At(d, u.parts)
	switch {
	case v.Kind == api.KindList && len(v.List) > 0:
		return u.elements(d, v.List, to)
	case (v.Kind == api.KindList || nothing(v)) && !u.keep:
		return api.OK
	}
	return to.take(d)
}

// elements makes of a document one for each element.
func (u unwind) elements(d api.Value, l []api.Value, to *made) api.Errno {
	for _, x := range l {
		v, e := path.Set(d, u.parts, x)
		if e != api.OK {
			return e
		}
		if e := to.take(v); e != api.OK {
			return e
		}
	}
	return api.OK
}

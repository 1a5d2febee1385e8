// Package shown tells what a path shows in a document: see shared/doc/08-pipe.md. Several layers go by it.
package shown

import (
	"iter"

	"coffret/api"
	"coffret/path"
)

// In goes through what the path of these parts shows in a document: each value to which it leads, and the elements of each that is a list, a missing one as null; null alone, if it leads to nothing.
func In(d api.Value, parts []string) iter.Seq[api.Value] {
	return func(tell func(api.Value) bool) {
		reached := path.Reach(d, parts)
		if len(reached) == 0 {
			tell(null())
		}
		for _, v := range reached {
			if !tell(orNull(v)) || v.Kind == api.KindList && !tellEach(v.List, tell) {
				return
			}
		}
	}
}

// tellEach tells the elements of a list; false: no more are wanted.
func tellEach(l []api.Value, tell func(api.Value) bool) bool {
	for _, v := range l {
		if !tell(orNull(v)) {
			return false
		}
	}
	return true
}

// orNull is v, but null if it is missing.
func orNull(v api.Value) api.Value {
	if v.Kind == 0 && v.Int == 0 && v.Text == "" && len(v.List) == 0 && len(v.Doc) == 0 {
		return null()
	}
	return v
}

func null() api.Value {
	return api.Value{Kind: api.KindNull}
}

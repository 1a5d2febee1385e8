package index

import (
	"math"

	"coffret/api"
	"coffret/path"
)

// never is the Expire of an index of which no document expires.
const never = -1

// isPart tells whether a text is a path's part.
func isPart(s string) bool {
	parts, e := path.Split(s)
	return e == api.OK && len(parts) == 1
}

func mayBeFields(l []api.IndexField) bool {
	if len(l) < 1 || len(l) > api.MaxFields {
		return false
	}
	ahead := map[string]struct{}{}
	for _, f := range l {
		_, e := path.Split(f.Path)
		if _, twice := ahead[f.Path]; twice || e != api.OK {
			return false
		}
		ahead[f.Path] = struct{}{}
	}
	return true
}

// mayExpire tells whether an index's Expire may be.
func mayExpire(x api.Index) bool {
	if x.Expire == never {
		return true
	}
	return x.Expire >= 0 && x.Expire <= math.MaxInt32 && len(x.Fields) == 1 && !x.Text
}

// mayBeText tells whether an index may be Text, if it is.
func mayBeText(x api.Index) bool {
	if !x.Text {
		return true
	}
	for _, f := range x.Fields {
		if f.Desc {
			return false
		}
	}
	return !x.Unique
}

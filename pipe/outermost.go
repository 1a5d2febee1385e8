package pipe

import (
	"iter"

	"coffret/api"
	"coffret/value"
)

// outermost is the first value that stands on one side of all others: -1 ahead of them, 1 behind; missing, if there is none.
func outermost(l iter.Seq[api.Value], side int) api.Value {
	out := api.Value{}
	for v := range l {
		out = outer(out, v, side)
	}
	return out
}

// outer is the first one of two values, but the second one if that stands on this side of it, or it is missing.
func outer(v, w api.Value, side int) api.Value {
	if missing(v) || value.Compare(w, v) == side {
		return w
	}
	return v
}

func null() api.Value {
	return api.Value{Kind: api.KindNull}
}

// missing tells whether a value stands for none.
func missing(v api.Value) bool {
	return v.Kind == 0 && v.Int == 0 && v.Text == "" && len(v.List) == 0 && len(v.Doc) == 0
}

// nothing tells whether a value is null, or stands for none.
func nothing(v api.Value) bool {
	return v.Kind == api.KindNull || missing(v)
}

// orNull is v, but null if it is missing.
func orNull(v api.Value) api.Value {
	if missing(v) {
		return null()
	}
	return v
}

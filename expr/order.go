package expr

import (
	"coffret/api"
	"coffret/value"
)

func orderOperator(name string) operator {
	switch name {
	case "$min":
		return eager{count{1, true}, least}
	case "$max":
		return eager{count{1, true}, greatest}
	case "$cmp":
		return eager{count{2, false}, func(l []api.Value) (api.Value, api.Errno) { return number(compare(l)), api.OK }}
	}
	holds := orderTest(name)
	if holds == nil {
		return nil
	}
	return eager{count{2, false}, func(l []api.Value) (api.Value, api.Errno) { return truth(holds(compare(l))), api.OK }}
}

// orderTest tells of what Compare says whether an operator holds; nil: there is no such operator.
func orderTest(name string) func(c int) bool {
	switch name {
	case "$eq":
		return func(c int) bool { return c == 0 }
	case "$ne":
		return func(c int) bool { return c != 0 }
	case "$gt":
		return func(c int) bool { return c > 0 }
	case "$gte":
		return func(c int) bool { return c >= 0 }
	case "$lt":
		return func(c int) bool { return c < 0 }
	case "$lte":
		return func(c int) bool { return c <= 0 }
	}
	return nil
}

func compare(l []api.Value) int {
	return value.Compare(orNull(l[0]), orNull(l[1]))
}

func least(l []api.Value) (api.Value, api.Errno) {
	return outermost(l, -1), api.OK
}

func greatest(l []api.Value) (api.Value, api.Errno) {
	return outermost(l, 1), api.OK
}

// outermost is the first one of values, or of the elements of one list, that stands on that side of all others; those that are nothing don't count.
func outermost(l []api.Value, side int) api.Value {
	if len(l) == 1 && l[0].Kind == api.KindList {
		l = l[0].List
	}
	out := null()
	for _, v := range l {
		if !nothing(v) && (nothing(out) || value.Compare(v, out) == side) {
			out = v
		}
	}
	return out
}

package filter

import (
	"slices"

	"coffret/api"
	"coffret/value"
)

// test is what is asked of what is tested.
type test interface {
	holds(x tested) (bool, api.Errno)
}

// tests hold, if all do.
type tests []test

func (l tests) holds(x tested) (bool, api.Errno) {
	return every(l, func(t test) (bool, api.Errno) { return t.holds(x) })
}

// some holds, if one of what is tested is so, elements of lists, too.
type some func(v api.Value) bool

func (is some) holds(x tested) (bool, api.Errno) {
	for v := range x.met() {
		if is(v) {
			return true, api.OK
		}
	}
	return false, api.OK
}

// unless holds, if the test does not.
type unless struct{ test }

func (u unless) holds(x tested) (bool, api.Errno) {
	return negated(u.test.holds(x))
}

// exists is `$exists`: whether there must be something.
type exists bool

func (must exists) holds(x tested) (bool, api.Errno) {
	is := slices.ContainsFunc(x, func(v api.Value) bool { return !missing(v) })
	return is == bool(must), api.OK
}

// sized is `$size`: how many elements there must be.
type sized int

func (n sized) holds(x tested) (bool, api.Errno) {
	return slices.ContainsFunc(x, func(v api.Value) bool { return v.Kind == api.KindList && len(v.List) == int(n) }), api.OK
}

// having is `$all`: a test of each value that must be there. None are never there.
type having struct{ tests }

func (h having) holds(x tested) (bool, api.Errno) {
	if len(h.tests) == 0 {
		return false, api.OK
	}
	return h.tests.holds(x)
}

// elem is `$elem`: whether an element is meant.
type elem func(v api.Value) (bool, api.Errno)

func (means elem) holds(x tested) (bool, api.Errno) {
	return one(x.elements(), means)
}

// meant is `$elem` with a filter.
func (l conditions) meant(v api.Value) (bool, api.Errno) {
	if v.Kind != api.KindDoc {
		return false, api.OK
	}
	return l.mean(v)
}

// alone is `$elem` with tests.
func (l tests) alone(v api.Value) (bool, api.Errno) {
	return l.holds(tested{v})
}

// like tells whether values are alike; v may be missing.
func like(v, w api.Value) bool {
	return value.Compare(orNull(v), w) == 0
}

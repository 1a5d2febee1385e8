package filter

import (
	"iter"
	"slices"

	"coffret/api"
	"coffret/expr"
)

// condition is a field of a filter. With an error none holds, here and wherever something is asked.
type condition interface {
	holds(doc api.Value) (bool, api.Errno)
}

// conditions are those of a filter.
type conditions []condition

// mean tells whether a document is meant.
func (l conditions) mean(doc api.Value) (bool, api.Errno) {
	return every(l, func(c condition) (bool, api.Errno) { return c.holds(doc) })
}

// fields goes through the fields that hold of each document that is meant: those with a path, those in `$and`, too.
func (l conditions) fields() iter.Seq[field] {
	return func(yield func(field) bool) {
		for _, c := range l {
			switch c := c.(type) {
			case field:
				if !yield(c) {
					return
				}
			case both:
				for x := range slices.Concat(c...).fields() {
					if !yield(x) {
						return
					}
				}
			}
		}
	}
}

// both is `$and`.
type both []conditions

func (l both) holds(doc api.Value) (bool, api.Errno) {
	return every(l, func(f conditions) (bool, api.Errno) { return f.mean(doc) })
}

// either is `$or`.
type either []conditions

func (l either) holds(doc api.Value) (bool, api.Errno) {
	return one(slices.Values(l), func(f conditions) (bool, api.Errno) { return f.mean(doc) })
}

// neither is `$nor`.
type neither struct{ either }

func (l neither) holds(doc api.Value) (bool, api.Errno) {
	return negated(l.either.holds(doc))
}

// reckoned is `$expr`.
type reckoned struct{ by *expr.Expr }

func (x reckoned) holds(doc api.Value) (bool, api.Errno) {
	v, e := x.by.Eval(doc)
	return e == api.OK && expr.Truth(v), e
}

// worded is `$text`: who looks for words asks the filter for them.
type worded struct{}

func (worded) holds(api.Value) (bool, api.Errno) {
	return true, api.OK
}

// field is a path with its tests.
type field struct {
	path  string
	parts []string
	tests tests
	conds []api.Cond // what Conds tells of it
}

func (x field) holds(doc api.Value) (bool, api.Errno) {
	return x.tests.holds(reach(doc, x.parts))
}

// every tells whether all hold, asked from the front up to the first that does not.
func every[T any](l []T, holds func(x T) (bool, api.Errno)) (bool, api.Errno) {
	for _, x := range l {
		if is, e := holds(x); !is {
			return false, e
		}
	}
	return true, api.OK
}

// one tells whether one holds, asked from the front up to the first that does.
func one[T any](l iter.Seq[T], holds func(x T) (bool, api.Errno)) (bool, api.Errno) {
	for x := range l {
		if is, e := holds(x); is || e != api.OK {
			return is, e
		}
	}
	return false, api.OK
}

func negated(is bool, e api.Errno) (bool, api.Errno) {
	return e == api.OK && !is, e
}

package expr

import (
	"iter"

	"coffret/api"
)

// input is the list that an expression comes to, or null.
func (w *worker) input(n node) (api.Value, api.Errno) {
	v, e := w.eval(n)
	switch {
	case e != api.OK:
		return api.Value{}, e
	case nothing(v):
		return null(), api.OK
	case v.Kind != api.KindList:
		return api.Value{}, api.ErrExprKind
	}
	return v, api.OK
}

// binding goes through elements; each is bound, behind all that is, as long as it is at hand.
func (w *worker) binding(l []api.Value) iter.Seq[api.Value] {
	return func(yield func(api.Value) bool) {
		at := len(w.bound)
		for _, x := range l {
			w.bound = append(w.bound, x)
			more := yield(x)
			w.bound = w.bound[:at]
			if !more {
				return
			}
		}
	}
}

// mapping is a `$map`.
type mapping struct{ input, in node }

func (m mapping) work(w *worker) (api.Value, api.Errno) {
	v, e := w.input(m.input)
	if e != api.OK || v.Kind != api.KindList {
		return v, e
	}
	out := newList(len(v.List))
	for range w.binding(v.List) {
		if e := w.evalInto(out, m.in); e != api.OK {
			return api.Value{}, e
		}
	}
	return out.value(), api.OK
}

// filtering is a `$filter`.
type filtering struct{ input, cond node }

func (f filtering) work(w *worker) (api.Value, api.Errno) {
	v, e := w.input(f.input)
	if e != api.OK || v.Kind != api.KindList {
		return v, e
	}
	out := newList(0)
	for x := range w.binding(v.List) {
		is, e := w.eval(f.cond)
		if e == api.OK && Truth(is) {
			e = out.put(x)
		}
		if e != api.OK {
			return api.Value{}, e
		}
	}
	return out.value(), api.OK
}

// reducing is a `$reduce`.
type reducing struct{ input, initial, in node }

func (r reducing) work(w *worker) (api.Value, api.Errno) {
	v, e := w.input(r.input)
	if e != api.OK || v.Kind != api.KindList {
		return v, e
	}
	so, e := small(w.eval(r.initial))
	if e != api.OK {
		return api.Value{}, e
	}
	at := len(w.bound)
	w.bound = append(w.bound, so)
	for range w.binding(v.List) {
		if so, e = small(w.eval(r.in)); e != api.OK {
			return api.Value{}, e
		}
		w.bound[at] = so
	}
	w.bound = w.bound[:at]
	return so, api.OK
}

package expr

import (
	"slices"

	"coffret/api"
	"coffret/path"
)

// node is an expression that was read. What it comes to may share memory with what is bound and with the expression: nobody changes it.
type node interface {
	work(w *worker) (api.Value, api.Errno)
}

// worker works an expression out: it knows what is bound, the document first, and how many steps were taken.
type worker struct {
	bound []api.Value
	steps int
}

func (w *worker) step() api.Errno {
	if w.steps == api.MaxWork {
		return api.ErrExprWork
	}
	w.steps++
	return api.OK
}

// eval works an expression out, which is a step.
func (w *worker) eval(n node) (api.Value, api.Errno) {
	if e := w.step(); e != api.OK {
		return api.Value{}, e
	}
	return n.work(w)
}

// evalAll are what expressions come to, from the front.
func (w *worker) evalAll(l []node) ([]api.Value, api.Errno) {
	out := make([]api.Value, len(l))
	for i, n := range l {
		v, e := w.eval(n)
		if e != api.OK {
			return nil, e
		}
		out[i] = v
	}
	return out, api.OK
}

// evalOrNull is eval, but null of what is missing.
func (w *worker) evalOrNull(n node) (api.Value, api.Errno) {
	v, e := w.eval(n)
	if e != api.OK {
		return api.Value{}, e
	}
	return orNull(v), api.OK
}

// evalInto puts what an expression comes to behind a list's elements, a missing one as null.
func (w *worker) evalInto(out *listMaker, n node) api.Errno {
	v, e := w.evalOrNull(n)
	if e != api.OK {
		return e
	}
	return out.put(v)
}

// plain stands for itself.
type plain struct{ v api.Value }

func (p plain) work(*worker) (api.Value, api.Errno) {
	return p.v, api.OK
}

// variable is what is bound at a place, and a way into it. A field is one, too: a way into the document.
type variable struct {
	at    int
	parts []string
}

func (x variable) work(w *worker) (api.Value, api.Errno) {
	return pick(w.bound[x.at], x.parts), api.OK
}

// pick is path.Pick, which copies what it answers; here nothing is copied where documents alone stand on the way: a field is worked out again and again.
func pick(v api.Value, parts []string) api.Value {
	for v.Kind == api.KindDoc && len(parts) > 0 {
		at := slices.IndexFunc(v.Doc, func(f api.Field) bool { return f.Name == parts[0] })
		if at < 0 {
			return api.Value{}
		}
		v, parts = v.Doc[at].Value, parts[1:]
	}
	if len(parts) == 0 {
		return v
	}
	return path.Pick(v, parts)
}

// row is a list of expressions.
type row []node

func (r row) work(w *worker) (api.Value, api.Errno) {
	out := newList(len(r))
	for _, n := range r {
		if e := w.evalInto(out, n); e != api.OK {
			return api.Value{}, e
		}
	}
	return out.value(), api.OK
}

// record is a document of expressions.
type record struct {
	names  []string
	values []node
}

func (r record) work(w *worker) (api.Value, api.Errno) {
	var out docMaker
	for i, n := range r.values {
		v, e := w.eval(n)
		if e == api.OK && !missing(v) {
			e = out.put(r.names[i], v)
		}
		if e != api.OK {
			return api.Value{}, e
		}
	}
	return out.value(), api.OK
}

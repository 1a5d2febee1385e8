package expr

import "coffret/api"

func boolOperator(name string) operator {
	switch name {
	case "$and":
		return decided{count{1, true}, false}
	case "$or":
		return decided{count{1, true}, true}
	case "$not":
		return eager{count{1, false}, not}
	case "$toBool":
		return eager{count{1, false}, toBool}
	case "$cond":
		return choice{count{3, false}}
	case "$ifNull":
		return instead{count{2, false}}
	}
	return nil
}

func not(l []api.Value) (api.Value, api.Errno) {
	return truth(!Truth(l[0])), api.OK
}

func toBool(l []api.Value) (api.Value, api.Errno) {
	return truth(Truth(l[0])), api.OK
}

// decided is `$and` and `$or`: what one argument counts as decides it.
type decided struct {
	count
	by bool
}

func (o decided) of(w *worker, args []node) (api.Value, api.Errno) {
	for _, n := range args {
		v, e := w.eval(n)
		if e != api.OK {
			return api.Value{}, e
		}
		if Truth(v) == o.by {
			return truth(o.by), api.OK
		}
	}
	return truth(!o.by), api.OK
}

// choice is `$cond`.
type choice struct{ count }

func (choice) of(w *worker, args []node) (api.Value, api.Errno) {
	v, e := w.eval(args[0])
	if e != api.OK {
		return api.Value{}, e
	}
	if Truth(v) {
		return w.evalOrNull(args[1])
	}
	return w.evalOrNull(args[2])
}

// instead is `$ifNull`.
type instead struct{ count }

func (instead) of(w *worker, args []node) (api.Value, api.Errno) {
	v, e := w.eval(args[0])
	if e != api.OK || !nothing(v) {
		return v, e
	}
	return w.evalOrNull(args[1])
}

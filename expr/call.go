package expr

import (
	"slices"

	"coffret/api"
	"coffret/value"
)

// operator is what a call works its arguments out by.
type operator interface {
	takes(many int) bool // whether there may be so many arguments; above MaxConds nobody asks
	of(w *worker, args []node) (api.Value, api.Errno)
}

// call is an operator with its arguments.
type call struct {
	op   operator
	args []node
}

func (c call) work(w *worker) (api.Value, api.Errno) {
	return small(c.op.of(w, c.args))
}

// small is what a call may come to: what is not too big.
func small(v api.Value, e api.Errno) (api.Value, api.Errno) {
	if e == api.OK {
		e = tooBig(value.Size(v))
	}
	if e != api.OK {
		return api.Value{}, e
	}
	return v, api.OK
}

// operatorOf is the operator of that name; nil, if there is none.
func operatorOf(name string) operator {
	for _, some := range []func(name string) operator{numberOperator, textOperator, listOperator, boolOperator, orderOperator, kindOperator, dateOperator} {
		if op := some(name); op != nil {
			return op
		}
	}
	return nil
}

// count is how many arguments there may be.
type count struct {
	least int
	more  bool
}

func (c count) takes(many int) bool {
	return many == c.least || c.more && many > c.least
}

// making makes what a call comes to out of what its arguments came to.
type making func(l []api.Value) (api.Value, api.Errno)

// eager is an operator that takes whatever its arguments come to.
type eager struct {
	count
	made making
}

func (o eager) of(w *worker, args []node) (api.Value, api.Errno) {
	l, e := w.evalAll(args)
	if e != api.OK {
		return api.Value{}, e
	}
	return o.made(l)
}

// kinds are some of the kinds of values: each a bit.
type kinds int

const (
	ints  kinds = 1 << api.KindInt
	texts kinds = 1 << api.KindText
	docs  kinds = 1 << api.KindDoc
	lists kinds = 1 << api.KindList
	bools kinds = 1 << api.KindBool
	dates kinds = 1 << api.KindDate
)

func (k kinds) have(v api.Value) bool {
	return v.Kind > 0 && v.Kind <= api.KindMax && k>>v.Kind&1 == 1
}

// strict is an operator that comes to null if one of its arguments comes to nothing, and takes each of some kinds alone.
type strict struct {
	count
	kinds []kinds // of each argument; of further ones, too, the last
	made  func(w *worker, l []api.Value) (api.Value, api.Errno)
}

func (o strict) of(w *worker, args []node) (api.Value, api.Errno) {
	l, e := w.evalAll(args)
	if e != api.OK {
		return api.Value{}, e
	}
	if slices.ContainsFunc(l, nothing) {
		return null(), api.OK
	}
	for i, v := range l {
		if !o.kinds[min(i, len(o.kinds)-1)].have(v) {
			return api.Value{}, api.ErrExprKind
		}
	}
	return o.made(w, l)
}

// just is a strict operator of as many arguments as there are kinds.
func just(made making, l ...kinds) operator {
	return strict{count{len(l), false}, l, made.alone}
}

// each is a strict operator of one argument or more, all of some kinds.
func each(made making, k kinds) operator {
	return strict{count{1, true}, []kinds{k}, made.alone}
}

// alone makes it without a worker.
func (m making) alone(_ *worker, l []api.Value) (api.Value, api.Errno) {
	return m(l)
}

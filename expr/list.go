package expr

import (
	"iter"
	"slices"

	"coffret/api"
	"coffret/value"
)

func listOperator(name string) operator {
	switch name {
	case "$size":
		return just(size, lists)
	case "$at":
		return just(element, lists, ints)
	case "$slice":
		return just(slice, lists, ints, ints)
	case "$join":
		return each(join, lists)
	case "$reverse":
		return just(reverse, lists)
	case "$range":
		return strict{count{2, false}, []kinds{ints, ints}, numbers}
	case "$has":
		return eager{count{2, false}, has}
	case "$merge":
		return each(merge, docs)
	}
	return nil
}

// window is from where on, and up to where, there are so many of a row from a place on, as far as there are any.
func window(long, place, many int) (int, int) {
	from := min(max(place, 0), long)
	return from, from + min(max(many, 0), long-from)
}

// listed is the list of so many values that are gone through.
func listed(many int, pieces iter.Seq[api.Value]) (api.Value, api.Errno) {
	out := newList(many)
	for v := range pieces {
		if e := out.put(v); e != api.OK {
			return api.Value{}, e
		}
	}
	return out.value(), api.OK
}

func size(l []api.Value) (api.Value, api.Errno) {
	return number(len(l[0].List)), api.OK
}

func element(l []api.Value) (api.Value, api.Errno) {
	all, place := l[0].List, l[1].Int
	if place < 0 {
		place += len(all)
	}
	if place < 0 || place >= len(all) {
		return api.Value{}, api.OK
	}
	return all[place], api.OK
}

func slice(l []api.Value) (api.Value, api.Errno) {
	from, to := window(len(l[0].List), l[1].Int, l[2].Int)
	return listed(to-from, slices.Values(l[0].List[from:to]))
}

func join(l []api.Value) (api.Value, api.Errno) {
	many := 0
	for _, v := range l {
		many += len(v.List)
	}
	return listed(many, func(yield func(api.Value) bool) {
		for _, v := range l {
			for _, x := range v.List {
				if !yield(x) {
					return
				}
			}
		}
	})
}

func reverse(l []api.Value) (api.Value, api.Errno) {
	return listed(len(l[0].List), func(yield func(api.Value) bool) {
		for _, x := range slices.Backward(l[0].List) {
			if !yield(x) {
				return
			}
		}
	})
}

// numbers is a `$range`, of which each number is a step.
func numbers(w *worker, l []api.Value) (api.Value, api.Errno) {
	out := newList(0)
	for n := l[0].Int; n < l[1].Int; n++ {
		e := w.step()
		if e == api.OK {
			e = out.put(number(n))
		}
		if e != api.OK {
			return api.Value{}, e
		}
	}
	return out.value(), api.OK
}

func has(l []api.Value) (api.Value, api.Errno) {
	if l[1].Kind != api.KindList {
		return api.Value{}, api.ErrExprKind
	}
	x := orNull(l[0])
	return truth(slices.ContainsFunc(l[1].List, func(y api.Value) bool { return value.Compare(x, y) == 0 })), api.OK
}

func merge(l []api.Value) (api.Value, api.Errno) {
	var out docMaker
	for _, v := range l {
		for _, f := range v.Doc {
			if e := out.put(f.Name, f.Value); e != api.OK {
				return api.Value{}, e
			}
		}
	}
	return out.value(), api.OK
}

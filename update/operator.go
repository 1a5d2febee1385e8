package update

import (
	"coffret/api"
	"coffret/path"
	"coffret/value"
)

// action does at an end of a way what an operator does there.
type action func(d *draft, end []string) api.Errno

// operator reads what it takes at a way.
type operator func(way string, v api.Value) (action, api.Errno)

// operators are all that there are.
func operators() table[operator] {
	return table[operator]{
		{"$set", set},
		{onInsertName, set},
		{"$unset", unset},
		{"$inc", reckoned(plus)},
		{"$mul", reckoned(times)},
		{"$min", outermost(-1)},
		{"$max", outermost(1)},
		{renameName, rename},
		{"$push", push},
		{"$add", add},
		{"$pull", pull},
		{"$pop", pop},
	}
}

func set(_ string, v api.Value) (action, api.Errno) {
	return func(d *draft, end []string) api.Errno { return d.set(end, v) }, api.OK
}

func unset(string, api.Value) (action, api.Errno) {
	return func(d *draft, end []string) api.Errno {
		d.unset(end)
		return api.OK
	}, api.OK
}

// outermost is `$min` or `$max`: it is set, if Compare tells that of it and what stands there.
func outermost(side int) operator {
	return func(_ string, v api.Value) (action, api.Errno) {
		return func(d *draft, end []string) api.Errno {
			if at := d.at(end); at != nil && value.Compare(v, *at) != side {
				return api.OK
			}
			return d.set(end, v)
		}, api.OK
	}
}

func rename(way string, v api.Value) (action, api.Errno) {
	_, e := path.Split(way)
	to, e2 := path.Split(v.Text)
	if e != api.OK || e2 != api.OK || v.Kind != api.KindText {
		return nil, api.ErrUpdateForm
	}
	if to[0] == idName {
		return nil, api.ErrUpdateId
	}
	return func(d *draft, end []string) api.Errno {
		at := d.at(end)
		if at == nil {
			return api.OK
		}
		v := *at
		d.unset(end)
		return d.set(to, v)
	}, api.OK
}

// reckoned is `$inc` or `$mul`: what stands there, or 0, if nothing does, together with what it takes.
func reckoned(together func(a, b int) (int, bool)) operator {
	return func(_ string, v api.Value) (action, api.Errno) {
		if v.Kind != api.KindInt {
			return nil, api.ErrUpdateForm
		}
		return func(d *draft, end []string) api.Errno {
			n := 0
			if at := d.at(end); at != nil {
				if at.Kind != api.KindInt {
					return api.ErrUpdateKind
				}
				n = at.Int
			}
			n, fits := together(n, v.Int)
			if !fits {
				return api.ErrExprOver
			}
			return d.set(end, api.Value{Kind: api.KindInt, Int: n})
		}, api.OK
	}
}

// plus is a and b together; false: that is beyond 64 bits.
func plus(a, b int) (int, bool) {
	n := a + b
	return n, (n > a) == (b > 0)
}

// times is a times b; false: that is beyond 64 bits.
func times(a, b int) (int, bool) {
	n := a * b
	if b == -1 {
		return n, a != api.MinInt // which divided by -1 is itself again
	}
	return n, b == 0 || n/b == a
}

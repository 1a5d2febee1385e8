package expr

import "coffret/api"

func numberOperator(name string) operator {
	switch name {
	case "$add":
		return each(add, ints|dates)
	case "$multiply":
		return each(multiply, ints)
	case "$subtract":
		return just(subtract, ints|dates, ints|dates)
	case "$divide":
		return just(divide, ints, ints)
	case "$mod":
		return just(modulo, ints, ints)
	case "$abs":
		return just(absolute, ints)
	}
	return nil
}

func add(l []api.Value) (api.Value, api.Errno) {
	out := number(0)
	for _, v := range l {
		if v.Kind == api.KindDate && out.Kind == api.KindDate {
			return api.Value{}, api.ErrExprKind
		}
		if v.Kind == api.KindDate {
			out.Kind = api.KindDate
		}
	}
	for _, v := range l {
		n, fits := plus(out.Int, v.Int)
		if !fits {
			return api.Value{}, api.ErrExprOver
		}
		out.Int = n
	}
	return out, api.OK
}

func multiply(l []api.Value) (api.Value, api.Errno) {
	out := number(1)
	for _, v := range l {
		n, fits := times(out.Int, v.Int)
		if !fits {
			return api.Value{}, api.ErrExprOver
		}
		out.Int = n
	}
	return out, api.OK
}

func subtract(l []api.Value) (api.Value, api.Errno) {
	a, b := l[0], l[1]
	if a.Kind == api.KindInt && b.Kind == api.KindDate {
		return api.Value{}, api.ErrExprKind
	}
	n, fits := minus(a.Int, b.Int)
	if !fits {
		return api.Value{}, api.ErrExprOver
	}
	if a.Kind == b.Kind {
		return number(n), api.OK
	}
	return date(n), api.OK
}

func divide(l []api.Value) (api.Value, api.Errno) {
	a, b := l[0].Int, l[1].Int
	if b == 0 {
		return api.Value{}, api.ErrExprZero
	}
	if a == api.MinInt && b == -1 {
		return api.Value{}, api.ErrExprOver
	}
	return number(a / b), api.OK
}

func modulo(l []api.Value) (api.Value, api.Errno) {
	a, b := l[0].Int, l[1].Int
	if b == 0 {
		return api.Value{}, api.ErrExprZero
	}
	return number(a % b), api.OK
}

func absolute(l []api.Value) (api.Value, api.Errno) {
	n := l[0].Int
	if n == api.MinInt {
		return api.Value{}, api.ErrExprOver
	}
	return number(max(n, -n)), api.OK
}

// plus is a and b together; false: that is beyond 64 bits.
func plus(a, b int) (int, bool) {
	n := a + b
	return n, (n > a) == (b > 0)
}

// minus is a less b; false: that is beyond 64 bits.
func minus(a, b int) (int, bool) {
	n := a - b
	return n, (n < a) == (b > 0)
}

// times is a times b; false: that is beyond 64 bits.
func times(a, b int) (int, bool) {
	n := a * b
	if b == -1 {
		return n, a != api.MinInt // which divided by -1 is itself again
	}
	return n, b == 0 || n/b == a
}

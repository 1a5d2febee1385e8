package pipe

import (
	"coffret/api"
	"coffret/expr"
	"coffret/value"
)

// match is `$match`, and as it was written.
type match struct {
	meant   func(d api.Value) (bool, api.Errno)
	written api.Value
}

func (m match) run(docs []api.Value, _ source) ([]api.Value, api.Errno) {
	var out []api.Value
	for _, d := range docs {
		is, e := m.meant(d)
		if e != api.OK {
			return nil, e
		}
		if is {
			out = append(out, d)
		}
	}
	return out, api.OK
}

// reckoned is a name with an expression.
type reckoned struct {
	name string
	by   *expr.Expr
}

// project is `$project`: fields of these names stay, or all others; behind them stands what is added.
type project struct {
	names map[string]struct{}
	stay  bool
	added []reckoned
}

func (p project) of(d api.Value, to *made) api.Errno {
	v := bare()
	for _, f := range d.Doc {
		if _, named := p.names[f.Name]; named == p.stay {
			v.Doc = append(v.Doc, f)
		}
	}
	for _, x := range p.added {
		y, e := x.by.Eval(d)
		if e != api.OK {
			return e
		}
		if !missing(y) {
			v.Doc = append(v.Doc, api.Field{Name: x.name, Value: y})
		}
	}
	return to.take(v)
}

// placed is a path with an expression.
type placed struct {
	parts []string
	by    *expr.Expr
}

// set is `$set`.
type set []placed

func (l set) of(d api.Value, to *made) api.Errno {
	var xs []api.Value
	for _, p := range l {
		x, e := p.by.Eval(d)
		if e != api.OK {
			return e
		}
		xs = append(xs, x)
	}
	v := value.Clone(d)
	for i, p := range l {
		if missing(xs[i]) {
			continue
		}
		if e := put(&v, p.parts, xs[i]); e != api.OK {
			return e
		}
	}
	return to.take(v)
}

// replace is `$replace` by what an expression comes to.
func replace(by *expr.Expr) each {
	return func(d api.Value, to *made) api.Errno {
		v, e := by.Eval(d)
		if e != api.OK {
			return e
		}
		if v.Kind != api.KindDoc {
			return api.ErrPipeKind
		}
		return to.take(v)
	}
}

func bare() api.Value {
	return api.Value{Kind: api.KindDoc}
}

package pipe

import (
	"coffret/api"
	"coffret/expr"
	"coffret/value"
)

// group is `$group`.
type group struct {
	id     *expr.Expr
	fields []gathered
}

// gathered is a field that an operator makes of what an expression comes to.
type gathered struct {
	reckoned
	start func() gatherer
}

// grouped are documents of one `_id`, as what is gathered of each field.
type grouped struct {
	id     api.Value
	fields []gatherer
}

// grouping is a group stage on its way through documents.
type grouping struct {
	group
	groups table[api.Value, *grouped]
	order  []*grouped // as they came
	bytes  int        // of what the expressions came to
}

func (g group) run(docs []api.Value, _ source) ([]api.Value, api.Errno) {
	r := grouping{group: g, groups: table[api.Value, *grouped]{order: value.Compare}}
	for _, d := range docs {
		if e := r.gather(d); e != api.OK {
			return nil, e
		}
	}
	out := made{}
	for _, x := range r.order {
		if e := out.take(g.told(x)); e != api.OK {
			return nil, e
		}
	}
	return out.docs, api.OK
}

// gather takes in one document.
func (r *grouping) gather(d api.Value) api.Errno {
	id, e := r.work(r.id, d)
	if e != api.OK {
		return e
	}
	to := r.of(orNull(id))
	for i, f := range r.fields {
		v, e := r.work(f.by, d)
		if e != api.OK {
			return e
		}
		if e := to.fields[i].gather(v); e != api.OK {
			return e
		}
	}
	return api.OK
}

// work is what an expression comes to, unless there is too much by then.
func (r *grouping) work(by *expr.Expr, d api.Value) (api.Value, api.Errno) {
	v, e := by.Eval(d)
	if e != api.OK {
		return api.Value{}, e
	}
	r.bytes += value.Size(v)
	if r.bytes > api.MaxHeap {
		return api.Value{}, api.ErrPipeMany
	}
	return v, api.OK
}

// of are the documents of one `_id`; if they are the first ones, nothing was gathered of them.
func (r *grouping) of(id api.Value) *grouped {
	at, there := r.groups.at(id)
	if !there {
		*at = &grouped{id: id}
		for _, f := range r.fields {
			(*at).fields = append((*at).fields, f.start())
		}
		r.order = append(r.order, *at)
	}
	return *at
}

// told is the document that comes of documents of one `_id`.
func (g group) told(x *grouped) api.Value {
	v := bare()
	v.Doc = append(v.Doc, api.Field{Name: idName, Value: x.id})
	for i, f := range g.fields {
		v.Doc = append(v.Doc, api.Field{Name: f.name, Value: x.fields[i].told()})
	}
	return v
}

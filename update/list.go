package update

import (
	"slices"

	"coffret/api"
	"coffret/value"
)

// eachName is the name of the field that says: each element of the list is meant, not the list.
const eachName = "$each"

// listed is an action on the list at an end: what it becomes. Where nothing stands one of no elements is made first, or nothing is done.
func listed(made bool, become func(l []api.Value) ([]api.Value, api.Errno)) action {
	return func(d *draft, end []string) api.Errno {
		v := api.Value{Kind: api.KindList}
		if at := d.at(end); at != nil {
			v = *at
		} else if !made {
			return api.OK
		}
		if v.Kind != api.KindList {
			return api.ErrUpdateKind
		}
		l, e := become(v.List)
		if e != api.OK {
			return e
		}
		v.List = l
		return d.set(end, v)
	}
}

// pushed is what `$push` does with a list; place and stay are beyond all lists' ends, if they are not said.
type pushed struct {
	each  []api.Value
	place int
	order int // 1 or -1; 0: none
	stay  int
}

func push(_ string, v api.Value) (action, api.Errno) {
	p := pushed{[]api.Value{v}, api.MaxInt, 0, api.MaxInt}
	if isEach(v) {
		p.each = nil
		for _, f := range v.Doc {
			if !p.read(f) {
				return nil, api.ErrUpdateForm
			}
		}
	}
	return listed(true, func(l []api.Value) ([]api.Value, api.Errno) { return p.into(l), api.OK }), api.OK
}

// isEach tells whether a value is a document that says what is to be done with each element of a list.
func isEach(v api.Value) bool {
	return len(v.Doc) > 0 && v.Doc[0].Name == eachName
}

// read reads one of the fields that `$push` may have; false: it is none.
func (p *pushed) read(f api.Field) bool {
	v := f.Value
	switch f.Name {
	case eachName:
		p.each = v.List
		return v.Kind == api.KindList
	case "$at":
		p.place = v.Int
	case "$sort":
		p.order = v.Int
		return isSide(v)
	case "$slice":
		p.stay = v.Int
	default:
		return false
	}
	return v.Kind == api.KindInt
}

// isSide tells whether a value is 1 or -1.
func isSide(v api.Value) bool {
	return v.Kind == api.KindInt && (v.Int == 1 || v.Int == -1)
}

// into is a list with what is pushed into it.
func (p *pushed) into(l []api.Value) []api.Value {
	at := p.place
	if at < 0 {
		at = max(0, len(l)+at)
	}
	at = min(at, len(l))
	l = slices.Concat(l[:at], p.each, l[at:])
	if p.order != 0 {
		l = value.Sort(l)
	}
	if p.order < 0 {
		slices.Reverse(l)
	}
	if p.stay < 0 {
		return l[max(0, len(l)+p.stay):]
	}
	return l[:min(p.stay, len(l))]
}

func add(_ string, v api.Value) (action, api.Errno) {
	each := []api.Value{v}
	if isEach(v) {
		if len(v.Doc) > 1 || v.Doc[0].Value.Kind != api.KindList {
			return nil, api.ErrUpdateForm
		}
		each = v.Doc[0].Value.List
	}
	return listed(true, func(l []api.Value) ([]api.Value, api.Errno) { return added(l, each), api.OK }), api.OK
}

// added is a list with those elements that are like none.
func added(l, each []api.Value) []api.Value {
	l = slices.Clip(l)
	for _, x := range each {
		if !slices.ContainsFunc(l, func(y api.Value) bool { return value.Compare(x, y) == 0 }) {
			l = append(l, x)
		}
	}
	return l
}

func pull(_ string, v api.Value) (action, api.Errno) {
	out := like(v)
	if v.Kind == api.KindDoc {
		is, e := meant(v)
		if e != api.OK {
			return nil, e
		}
		out = is
	}
	return listed(false, func(l []api.Value) ([]api.Value, api.Errno) { return pulled(l, out) }), api.OK
}

// pulled is a list without the elements that are meant.
func pulled(l []api.Value, out choice) ([]api.Value, api.Errno) {
	var stay []api.Value
	for _, x := range l {
		is, e := out(x)
		if e != api.OK {
			return nil, e
		}
		if !is {
			stay = append(stay, x)
		}
	}
	return stay, api.OK
}

func pop(_ string, v api.Value) (action, api.Errno) {
	if !isSide(v) {
		return nil, api.ErrUpdateForm
	}
	return listed(false, func(l []api.Value) ([]api.Value, api.Errno) {
		switch {
		case len(l) == 0:
			return nil, api.OK
		case v.Int == 1:
			return l[:len(l)-1], api.OK
		}
		return l[1:], api.OK
	}), api.OK
}

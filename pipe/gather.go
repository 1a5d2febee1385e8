package pipe

import (
	"coffret/api"
	"coffret/value"
)

// gatherer is an operator of `$group` on its way through values; what is told is told once all are gathered.
type gatherer interface {
	gather(v api.Value) api.Errno
	told() api.Value
}

// gathererOf makes an operator that has gathered nothing; nil: there is none of that name.
func gathererOf(name string) func() gatherer {
	switch name {
	case "$sum":
		return func() gatherer { return &sum{} }
	case "$avg":
		return func() gatherer { return &average{} }
	case "$min":
		return func() gatherer { return &extreme{side: -1} }
	case "$max":
		return func() gatherer { return &extreme{side: 1} }
	case "$first":
		return func() gatherer { return &first{} }
	case "$last":
		return func() gatherer { return &last{} }
	case "$push":
		return func() gatherer { return &all{} }
	case "$add":
		return func() gatherer { return &unlike{there: table[api.Value, struct{}]{order: value.Compare}} }
	}
	return nil
}

// sum is `$sum`.
type sum struct {
	n, many int
}

func (s *sum) gather(v api.Value) api.Errno {
	switch {
	case nothing(v):
		return api.OK
	case v.Kind != api.KindInt:
		return api.ErrPipeKind
	}
	n := s.n + v.Int
	if (n > s.n) != (v.Int > 0) {
		return api.ErrExprOver
	}
	s.n = n
	s.many++
	return api.OK
}

func (s *sum) told() api.Value {
	return number(s.n)
}

// average is `$avg`.
type average struct {
	sum
}

func (a *average) told() api.Value {
	if a.many == 0 {
		return null()
	}
	return number(a.n / a.many)
}

// extreme is `$min` or `$max`, as the side says on which it stands of all others.
type extreme struct {
	side int
	v    api.Value
}

func (x *extreme) gather(v api.Value) api.Errno {
	if !nothing(v) {
		x.v = outer(x.v, v, x.side)
	}
	return api.OK
}

func (x *extreme) told() api.Value {
	return orNull(x.v)
}

// last is `$last`.
type last struct {
	v api.Value
}

func (l *last) gather(v api.Value) api.Errno {
	l.v = v
	return api.OK
}

func (l *last) told() api.Value {
	return orNull(l.v)
}

// first is `$first`.
type first struct {
	last
	there bool
}

func (f *first) gather(v api.Value) api.Errno {
	if f.there {
		return api.OK
	}
	f.there = true
	return f.last.gather(v)
}

// all is `$push`.
type all struct {
	l []api.Value
}

func (a *all) gather(v api.Value) api.Errno {
	if !missing(v) {
		a.l = append(a.l, v)
	}
	return api.OK
}

func (a *all) told() api.Value {
	return api.Value{Kind: api.KindList, List: a.l}
}

// unlike is `$add`.
type unlike struct {
	all
	there table[api.Value, struct{}]
}

func (u *unlike) gather(v api.Value) api.Errno {
	if _, there := u.there.at(v); there {
		return api.OK
	}
	return u.all.gather(v)
}

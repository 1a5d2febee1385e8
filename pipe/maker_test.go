package pipe_test

import (
	"slices"
	"strings"

	"coffret/api"
	"coffret/value"
)

const stageNames = "$match $project $set $group $sort $limit $skip $unwind $lookup $union $count $replace"

// maker makes documents and pipelines that look like any.
type maker struct{ *dice }

func newMaker(n int) maker {
	d := dice(n)
	return maker{&d}
}

// value is a value that may be.
func (m maker) value(deep int) api.Value {
	switch n := m.below(14); {
	case n < 2 && deep > 0:
		v := list()
		for range m.below(4) {
			v.List = append(v.List, m.value(deep-1))
		}
		return v
	case n < 4 && deep > 0:
		v := doc()
		for _, name := range []string{"k", "n", "l"} {
			if m.below(2) == 0 {
				v.Doc = append(v.Doc, of(name, m.value(deep-1)))
			}
		}
		return v
	case n == 4:
		return pick(m.dice, kinds()...)
	case n == 5:
		return pick(m.dice, null(), null(), txt("x"), txt(""), flag(true), date(1))
	case n == 6 && m.below(4) == 0:
		return num(pick(m.dice, api.MinInt, api.MaxInt))
	}
	return num(m.below(4) - 1)
}

// row is a list of values, most of them numbers, or of documents.
func (m maker) row(docs bool) api.Value {
	l := list()
	for range m.below(4) {
		x := m.value(m.below(2))
		if docs && m.below(8) > 0 {
			x = doc(of("k", m.value(0)), of("n", m.value(1)), of("l", m.row(false)))
			x.Doc = x.Doc[m.below(3):]
		}
		l.List = append(l.List, x)
	}
	return l
}

// document is a document with a value, now and then, that may not be.
func (m maker) document() api.Value {
	d := doc(of("_id", m.value(1)), of("a", num(m.below(3))), of("b", m.value(1)), of("l", m.row(false)), of("x", m.row(true)), of("d", doc(of("k", m.value(1)), of("l", m.row(m.below(2) == 0)))))
	for i := range d.Doc {
		if m.below(20) == 0 {
			d.Doc[i].Value = m.value(2)
		}
		if m.below(600) == 0 {
			d.Doc[i].Value = pick(m.dice, api.Value{}, list(api.Value{}), api.Value{Kind: 77})
		}
	}
	for range m.below(5) {
		n := m.below(len(d.Doc))
		d.Doc = slices.Delete(d.Doc, n, n+1)
	}
	if m.below(150) == 0 {
		return doc(append(d.Doc, d.Doc...)...)
	}
	return d
}

func (m maker) docs() []api.Value {
	var l []api.Value
	for range m.below(6) {
		l = append(l, m.document())
	}
	if len(l) > 0 && m.below(100) == 0 {
		l[m.below(len(l))] = pick(m.dice, list(), m.value(0), api.Value{})
	}
	return l
}

func (m maker) others() others {
	return others{"o": m.docs(), "p": m.docs()}
}

func (m maker) name() string {
	return pick(m.dice, strings.Fields("_id a b l x d z")...)
}

func (m maker) way() string {
	return pick(m.dice, strings.Fields("a a b _id l l l.0 l.1 x x x.k x.k x.n x.l x.0 x.1.k x.0.l d d.k d.l d.l.0 d.l.k z z.y a.k l.x l.4 d.l.150")...)
}

// near is a way at which something can be put, most often.
func (m maker) near() string {
	if m.below(4) == 0 {
		return m.way()
	}
	return pick(m.dice, "a", "b", "z", "z.y", "d.z", "d.l", "l", "_id", "l.0")
}

// expression is one that is worked out of most documents.
func (m maker) expression(deep int) api.Value {
	if deep == 0 || m.below(3) > 0 {
		return pick(m.dice, txt("$a"), txt("$a"), txt("$b"), txt("$_id"), txt("$l"), txt("$x.k"), txt("$d"), txt("$d.k"), txt("$z"), txt("$$ROOT"), num(1), num(m.below(4)), txt("x"), null(), flag(true), op("$literal", m.value(1)))
	}
	x, y := m.expression(deep-1), m.expression(deep-1)
	switch m.below(9) {
	case 0:
		return op("$add", list(txt("$a"), num(pick(m.dice, 1, 2, api.MaxInt))))
	case 1:
		return doc(of("p", x), of("q", y))
	case 2:
		return list(x, y)
	case 3:
		return op("$divide", list(num(6), txt(pick(m.dice, "$a", "$d.k"))))
	case 4:
		return op("$ifNull", list(x, y))
	case 5:
		return op("$cond", list(x, y, num(2)))
	case 6:
		return op("$size", txt(pick(m.dice, "$l", "$x", "$l", "$b")))
	case 7:
		return op("$type", x)
	}
	return op("$max", list(x, y))
}

func (m maker) filter() api.Value {
	f := doc(of(m.way(), m.value(1)))
	switch m.below(7) {
	case 0:
		return doc()
	case 1:
		f = doc(of("a", op("$lt", num(2))))
	case 2:
		f = doc(of(m.way(), op(pick(m.dice, "$exists", "$exists", "$size"), flag(true))))
	case 3:
		f = op("$expr", m.expression(1))
	case 4:
		f = op("$or", list(op("a", num(1)), op(m.way(), null())))
	case 5:
		f = doc(of(m.way(), op("$gte", m.value(0))))
	}
	if m.below(12) == 0 {
		f.Doc = append(f.Doc, of("$text", txt("word")))
	}
	return f
}

// some is a document of fields of different names.
func (m maker) some(name func() string, is func(name string) api.Value) api.Value {
	d := doc()
	for range 1 + m.below(4) {
		n := name()
		if _, twice := value.Get(d, n); !twice {
			d.Doc = append(d.Doc, of(n, is(n)))
		}
	}
	return d
}

func (m maker) project() api.Value {
	out := m.below(3) == 0
	return m.some(m.name, func(name string) api.Value {
		switch n := m.below(4); {
		case out && (name != "_id" || n > 0) || n == 0:
			return num(0)
		case n < 3:
			return num(1)
		}
		return m.expression(2)
	})
}

func (m maker) group() api.Value {
	d := m.some(m.name, func(string) api.Value {
		return op(pick(m.dice, strings.Fields("$sum $sum $avg $min $max $first $last $push $add")...), m.reckoned())
	})
	return doc(append([]api.Field{of("_id", m.expression(1))}, value.Without(d, "_id").Doc...)...)
}

// reckoned is an expression that comes to a number or nothing, most often.
func (m maker) reckoned() api.Value {
	return pick(m.dice, txt("$a"), txt("$a"), txt("$z"), num(1), num(api.MaxInt), txt("$d.k"), op("$size", txt("$l")), m.expression(1))
}

// takes is what a stage takes.
func (m maker) takes(name string) api.Value {
	switch name {
	case "$match":
		return m.filter()
	case "$project":
		return m.project()
	case "$set":
		return m.some(m.near, func(string) api.Value { return m.expression(2) })
	case "$group":
		return m.group()
	case "$sort":
		return m.some(m.way, func(string) api.Value { return num(pick(m.dice, 1, -1)) })
	case "$limit", "$skip":
		return num(m.below(5))
	case "$unwind":
		if way := txt(m.way()); m.below(2) == 0 {
			return doc(of("path", way), of("keep", flag(m.below(2) == 0)))
		} else {
			return way
		}
	case "$lookup":
		d := doc(of("from", txt(pick(m.dice, "o", "p", "none"))), of("local", txt(m.way())), of("foreign", txt(m.way())), of("as", txt(m.near())))
		n := m.below(4)
		d.Doc[0], d.Doc[n] = d.Doc[n], d.Doc[0]
		return d
	case "$union":
		return txt(pick(m.dice, "o", "p", "none"))
	case "$count":
		return txt(m.name())
	}
	return pick(m.dice, txt("$$ROOT"), txt("$d"), op("m", m.expression(1)), op("$merge", list(txt("$$ROOT"), op("m", m.expression(1)))), m.expression(1))
}

func (m maker) pipeline() api.Value {
	v := list()
	for range m.below(4) {
		name := pick(m.dice, strings.Fields(stageNames)...)
		v.List = append(v.List, op(name, m.takes(name)))
	}
	return v
}

// spoilt is a value that is wrong somewhere.
func (m maker) spoilt(v api.Value) api.Value {
	v = value.Clone(v)
	switch {
	case v.Kind == api.KindList && len(v.List) > 0 && m.below(8) > 0:
		n := m.below(len(v.List))
		v.List[n] = m.spoilt(v.List[n])
		return v
	case v.Kind == api.KindDoc && len(v.Doc) > 0 && m.below(6) > 0:
		n := m.below(len(v.Doc))
		switch m.below(8) {
		case 0:
			v.Doc[n].Name = pick(m.dice, "", "a.b", "$a", "$text", "$sum", "$limit", "_id", "keep", "a.", "a")
		case 1:
			v.Doc = append(v.Doc, of(pick(m.dice, "y", "$y", "a.b", "$avg"), m.value(1)))
		case 2:
			v.Doc = slices.Delete(v.Doc, n, n+1)
		default:
			v.Doc[n].Value = m.spoilt(v.Doc[n].Value)
		}
		return v
	}
	return pick(m.dice, txt("$"), txt("$$x"), num(-1), num(2), flag(true), doc(), list(), txt("a."), txt(""), op("$x", num(1)), op("$sum", txt("$")), m.value(2), api.Value{Kind: 99}, null())
}

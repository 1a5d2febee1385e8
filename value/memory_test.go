package value_test

import (
	"testing"

	"coffret/api"
	"coffret/value"
)

// roomy is v in lists that all have spare room, in which something stands.
func roomy(v api.Value) api.Value {
	if v.Kind == api.KindList {
		l := make([]api.Value, 0, len(v.List)+3)
		for _, x := range v.List {
			l = append(l, roomy(x))
		}
		fill(l[len(l):cap(l)])
		v.List = l
	}
	if v.Kind == api.KindDoc {
		l := make([]api.Field, 0, len(v.Doc)+3)
		for _, f := range v.Doc {
			l = append(l, of(f.Name, roomy(f.Value)))
		}
		for i := range l[len(l):cap(l)] {
			l[len(l):cap(l)][i] = of("spare", txt("room"))
		}
		v.Doc = l
	}
	return v
}

func fill(l []api.Value) {
	for i := range l {
		l[i] = txt("spare")
	}
}

// whole is v with its lists' spare room as if it were used.
func whole(v api.Value) api.Value {
	out := v
	out.List, out.Doc = nil, nil
	for _, x := range v.List[:cap(v.List)] {
		out.List = append(out.List, whole(x))
	}
	for _, f := range v.Doc[:cap(v.Doc)] {
		out.Doc = append(out.Doc, of(f.Name, whole(f.Value)))
	}
	return out
}

// cells notes where all elements and fields of values lie, spare room too.
type cells struct {
	values map[*api.Value]bool
	fields map[*api.Field]bool
	shared bool
}

func (c *cells) note(v api.Value) {
	c.noteList(v.List)
	l := v.Doc[:cap(v.Doc)]
	for i := range l {
		c.shared = c.shared || c.fields[&l[i]]
		c.fields[&l[i]] = true
		c.note(l[i].Value)
	}
}

func (c *cells) noteList(l []api.Value) {
	l = l[:cap(l)]
	for i := range l {
		c.shared = c.shared || c.values[&l[i]]
		c.values[&l[i]] = true
		c.note(l[i])
	}
}

// apart tells whether what is answered shares no memory with the arguments, nor within itself.
func apart(args, answer []api.Value) bool {
	c := &cells{values: map[*api.Value]bool{}, fields: map[*api.Field]bool{}}
	for _, v := range args {
		c.note(v)
	}
	c.shared = false // the arguments may share what they like
	for _, v := range answer {
		c.note(v)
	}
	return !c.shared
}

func sample() api.Value {
	part := list(num(1), doc(of("x", list(txt("y"))), of("z", list())))
	return doc(of("a", part), of("b", doc(of("c", list(list(num(2)), list())))), of("a", list(num(3))), of("e", doc()), of("part", part))
}

// TestNothingShared: what is answered is new memory, in all depths, spare room too (P1.6).
func TestNothingShared(t *testing.T) {
	v, x := roomy(sample()), roomy(list(num(1), doc(of("k", list(num(2))))))
	row := make([]api.Value, 0, 20)
	row = append(row, roomy(list(num(2), list())), v, x, roomy(doc(of("a", list()))), roomy(list()), roomy(doc()), num(4), v)
	fill(row[len(row):cap(row)])
	one := row[:1]
	args := []api.Value{{List: row}, v, x}
	get := func(name string) []api.Value {
		out, is := value.Get(v, name)
		if !is {
			t.Errorf("no %q", name)
		}
		return []api.Value{out}
	}
	for what, answer := range map[string][]api.Value{
		"Get":                 {get("a")[0]},
		"Get of what is bare": {get("e")[0]},
		"With, there":         {value.With(v, "b", x)},
		"With, further":       {value.With(v, "new", x)},
		"With itself":         {value.With(v, "a", v)},
		"With a part":         {value.With(v, "new", v.Doc[0].Value)},
		"Without":             {value.Without(v, "a")},
		"Without none":        {value.Without(v, "none")},
		"Clone":               {value.Clone(v)},
		"Clone of a list":     {value.Clone(x)},
		"Clone of none":       {value.Clone(row[4]), value.Clone(row[5])},
		"Sort":                {{List: value.Sort(row)}},
		"Sort of one":         {{List: value.Sort(one)}},
		"Sort of none":        {{List: value.Sort(row[:0])}},
		"twice":               {value.Clone(v), value.Clone(v), value.With(v, "b", x), value.With(v, "b", x)},
	} {
		if !apart(args, answer) {
			t.Errorf("%s shares memory", what)
		}
	}
}

// TestSharedPartsComeApart: lists that are one in what is handed in are two in what is answered.
func TestSharedPartsComeApart(t *testing.T) {
	part := list(num(1), num(2))
	for what, v := range map[string]api.Value{
		"Clone":   value.Clone(list(part, part, doc(of("a", part)))),
		"With":    value.With(doc(of("a", part), of("b", part)), "c", part),
		"Without": value.Without(doc(of("a", part), of("b", part), of("c", num(1))), "c"),
		"Sort":    {List: value.Sort([]api.Value{part, part})},
	} {
		if !apart(nil, []api.Value{v}) {
			t.Errorf("%s: two lists share memory", what)
		}
	}
}

// TestNothingChanged: what is handed in stays as it is, spare room too (P1.6).
func TestNothingChanged(t *testing.T) {
	for _, seed := range append(append(rising(), odd()...), sample(), named(40), nulls(40)) {
		v, x := roomy(seed), roomy(list(num(3), doc(of("k", list(num(2))))))
		falling := rising()
		row := make([]api.Value, 0, len(falling)+5)
		for i := range falling {
			row = append(row, roomy(falling[len(falling)-1-i]))
		}
		row = append(row, v)
		fill(row[len(row):cap(row)])
		before := []api.Value{whole(v), whole(x), whole(api.Value{List: row})}
		value.Right(v)
		value.Size(v)
		value.Compare(v, x)
		value.Compare(v, v)
		for _, name := range []string{"a", "b", "e", "new", "f7"} {
			value.Get(v, name)
			value.With(v, name, x)
			value.Without(v, name)
		}
		value.Clone(v)
		value.Sort(row)
		for i, now := range []api.Value{whole(v), whole(x), whole(api.Value{List: row})} {
			if !same(now, before[i]) {
				t.Errorf("argument %d was changed: seed %v", i, seed)
			}
		}
	}
}

// TestNothingKept: what is done to an answer, or to an argument behind the call, changes no later answer.
func TestNothingKept(t *testing.T) {
	v := sample()
	first := value.Clone(v)
	first.Doc[0].Value.List[0] = txt("other")
	first.Doc[1].Name = "other"
	wantSame(t, "Clone again", value.Clone(v), sample())
	l := []api.Value{num(2), num(1)}
	got := value.Sort(l)
	l[0] = num(9)
	if got[0].Int != 1 || got[1].Int != 2 {
		t.Error(got)
	}
	x := list(num(1))
	with := value.With(doc(), "a", x)
	x.List[0] = num(2)
	wantSame(t, "With", with, doc(of("a", list(num(1)))))
}

// TestEmptyAndNil: a nil list and an empty one are the same, handed in (W5).
func TestEmptyAndNil(t *testing.T) {
	empty := api.Value{Kind: api.KindList, List: []api.Value{}}
	none := api.Value{Kind: api.KindDoc, Doc: []api.Field{}}
	if value.Compare(empty, list()) != 0 || value.Compare(none, doc()) != 0 {
		t.Error("unlike")
	}
	if value.Right(empty) != api.OK || value.Right(none) != api.OK || value.Size(empty) != 5 || value.Size(none) != 5 {
		t.Error("not right")
	}
	wantSame(t, "With", value.With(none, "a", empty), doc(of("a", list())))
	wantSame(t, "Without", value.Without(none, "a"), doc())
}

// TestMuchNested: values nested as deep as the bound lets them be end without a panic (W1).
func TestMuchNested(t *testing.T) {
	for _, docs := range []bool{false, true} {
		v := nest(num(1), 1<<16-1, docs)
		if value.Right(v) != api.ErrBig || value.Size(v) != api.MaxDoc+1 {
			t.Error("not too big")
		}
		c := value.Clone(v)
		if value.Compare(v, c) != 0 || value.Compare(v, nest(num(2), 1<<16-1, docs)) != -1 {
			t.Error("unlike")
		}
		if len(value.Sort([]api.Value{v, c})) != 2 {
			t.Error("not sorted")
		}
		value.With(v, "a", num(1))
		value.Without(v, "a")
		value.Get(v, "a")
	}
}

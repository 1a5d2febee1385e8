package path_test

import (
	"slices"
	"testing"

	"coffret/api"
	"coffret/path"
)

// roomy is v in lists that all have spare room, in which something stands.
func roomy(v api.Value) api.Value {
	l := make([]api.Value, len(v.List)+3)
	for i := range l {
		l[i] = list(txt("spare"))
	}
	for i, x := range v.List {
		l[i] = roomy(x)
	}
	d := make([]api.Field, len(v.Doc)+3)
	for i := range d {
		d[i] = of("spare", list(txt("room")))
	}
	for i, f := range v.Doc {
		d[i] = of(f.Name, roomy(f.Value))
	}
	v.List, v.Doc = l[:len(v.List)], d[:len(v.Doc)]
	return v
}

// used is v with its lists' spare room as if it were used.
func used(v api.Value) api.Value {
	out := v
	out.List, out.Doc = nil, nil
	for _, x := range v.List[:cap(v.List)] {
		out.List = append(out.List, used(x))
	}
	for _, f := range v.Doc[:cap(v.Doc)] {
		out.Doc = append(out.Doc, of(f.Name, used(f.Value)))
	}
	return out
}

// cells notes where all elements and fields of values lie, spare room too.
type cells struct {
	values map[*api.Value]bool
	fields map[*api.Field]bool
	shared bool
}

func (c *cells) note(v api.Value) {
	l := v.List[:cap(v.List)]
	for i := range l {
		c.shared = c.shared || c.values[&l[i]]
		c.values[&l[i]] = true
		c.note(l[i])
	}
	d := v.Doc[:cap(v.Doc)]
	for i := range d {
		c.shared = c.shared || c.fields[&d[i]]
		c.fields[&d[i]] = true
		c.note(d[i].Value)
	}
}

// apart tells whether answers share no memory with the arguments, nor with each other, nor within.
func apart(args, answers []api.Value) bool {
	c := &cells{values: map[*api.Value]bool{}, fields: map[*api.Field]bool{}}
	for _, v := range args {
		c.note(v)
	}
	c.shared = false // the arguments may share what they like
	for _, v := range answers {
		c.note(v)
	}
	return !c.shared
}

// wild overwrites all that v holds, spare room too.
func wild(v api.Value) {
	for i := range v.List[:cap(v.List)] {
		wild(v.List[:cap(v.List)][i])
		v.List[:cap(v.List)][i] = txt("wild")
	}
	for i := range v.Doc[:cap(v.Doc)] {
		wild(v.Doc[:cap(v.Doc)][i].Value)
		v.Doc[:cap(v.Doc)][i] = of("wild", num(-1))
	}
}

// answers are what all calls tell of these.
func answers(v api.Value, l []string, x api.Value) []api.Value {
	at, _ := path.At(v, l)
	set, _ := path.Set(v, l, x)
	return []api.Value{{List: path.Reach(v, l)}, path.Pick(v, l), at, set, path.Unset(v, l)}
}

// TestMemory: what is handed in is neither changed nor kept, what is answered is new (P4.7).
func TestMemory(t *testing.T) {
	d := dice(21)
	for range 8000 {
		v, x := roomy(d.any(4)), roomy(d.any(2))
		names := d.parts()
		l := append(slices.Clone(names), "a", "0", "x")[:len(names)]
		wasV, wasX, wasL := used(v), used(x), slices.Clone(l[:cap(l)])
		got := answers(v, l, x)
		again := answers(v, l, x)
		if !same(used(v), wasV) || !same(used(x), wasX) || !slices.Equal(l[:cap(l)], wasL) {
			t.Fatalf("changed: %v, %q, %v", wasV, l, wasX)
		}
		if !apart([]api.Value{v, x}, append(slices.Clone(got), again...)) {
			t.Fatalf("shared: %v, %q, %v", v, l, x)
		}
		for i := range got {
			wild(got[i])
		}
		wild(v)
		wild(x)
		clear(l[:cap(l)])
		later := answers(roomy(shown(wasV)), names, shown(wasX))
		for i := range later {
			if !same(again[i], later[i]) {
				t.Fatalf("call %d of %v, %q, %v: kept", i, wasV, names, wasX)
			}
		}
	}
}

// shown is what roomy was made of, out of what is used of it.
func shown(v api.Value) api.Value {
	out := v
	out.List, out.Doc = nil, nil
	for _, x := range v.List[:max(len(v.List)-3, 0)] {
		out.List = append(out.List, shown(x))
	}
	for _, f := range v.Doc[:max(len(v.Doc)-3, 0)] {
		out.Doc = append(out.Doc, of(f.Name, shown(f.Value)))
	}
	return out
}

// TestMetTwice: what is met, picked or put twice is answered in memory of its own each time (P4.7).
func TestMetTwice(t *testing.T) {
	part := list(num(3), doc(of("k", list())))
	v := list(doc(of("0", list(doc(of("0", part))))))
	l := []string{"0", "0", "0"}
	if got := path.Reach(v, l); len(got) != 5 || !apart(row(v), got) {
		t.Error("Reach", got)
	}
	v = list(part, part, doc(of("a", part), of("b", part)))
	for what, got := range map[string][]api.Value{
		"Reach":  {{List: path.Reach(list(v.List[2], v.List[2]), []string{"a"})}},
		"Pick":   {path.Pick(v, nil), path.Pick(list(v, v), []string{"a"})},
		"Unset":  {path.Unset(v, nil), path.Unset(v, []string{"7"}), path.Unset(v, []string{"2", "a"})},
		"itself": {firstOf(path.Set(v, []string{"1"}, v)), firstOf(path.Set(v, []string{"2", "x", "y"}, v))},
	} {
		if !apart(row(v), got) {
			t.Errorf("%s shares memory", what)
		}
	}
	want := list(part, v, v.List[2])
	wantSame(t, "Set of itself", firstOf(path.Set(v, []string{"1"}, v)), want)
}

func firstOf(v api.Value, _ api.Errno) api.Value { return v }

// TestSplitMemory: the parts are a list of their own (P4.7).
func TestSplitMemory(t *testing.T) {
	first, _ := path.Split("a.b")
	second, e := path.Split("a.b")
	clear(first[:cap(first)])
	if third, _ := path.Split("a.b"); e != api.OK || !slices.Equal(second, []string{"a", "b"}) || !slices.Equal(third, second) {
		t.Error(second, third, e)
	}
}

// TestNilAndEmpty: a nil list and an empty one are the same (W5).
func TestNilAndEmpty(t *testing.T) {
	bare := api.Value{Kind: api.KindList, List: []api.Value{}}
	blank := api.Value{Kind: api.KindDoc, Doc: []api.Field{}}
	for _, l := range [][]string{nil, {}} {
		wantRows(t, "Reach", path.Reach(bare, l), row(list()))
		wantSame(t, "Pick", path.Pick(blank, l), doc())
		if _, e := path.Set(blank, l, bare); e != api.ErrPath {
			t.Error("Set", e)
		}
		if got, is := path.At(blank, l); !is || !same(got, doc()) {
			t.Error("At", got, is)
		}
	}
	wantSame(t, "Set", firstOf(path.Set(blank, []string{"a"}, bare)), doc(of("a", list())))
	wantSame(t, "Set of a list", firstOf(path.Set(bare, []string{"0"}, blank)), list(doc()))
	wantRows(t, "Reach", path.Reach(bare, []string{"a"}), nil)
	wantRows(t, "Reach", path.Reach(blank, []string{"a"}), row(none()))
}

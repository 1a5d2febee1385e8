package index_test

import (
	"bytes"
	"slices"
	"strconv"
	"strings"
	"testing"

	"coffret/api"
	"coffret/filter"
	"coffret/index"
	"coffret/keyenc"
	"coffret/path"
	"coffret/value"
)

// holds tells whether a test holds of one value.
func holds(op string, v, with api.Value) bool {
	c := value.Compare(v, with)
	switch op {
	case "$eq":
		return c == 0
	case "$in":
		return slices.ContainsFunc(with.List, func(w api.Value) bool { return value.Compare(v, w) == 0 })
	case "$prefix":
		return v.Kind == api.KindText && strings.HasPrefix(v.Text, with.Text)
	case "$gt":
		return v.Kind == with.Kind && c > 0
	case "$gte":
		return v.Kind == with.Kind && c >= 0
	case "$lt":
		return v.Kind == with.Kind && c < 0
	}
	return v.Kind == with.Kind && c <= 0
}

// test is some test, often with a value near to one of these.
func (d *dice) test(near []api.Value) (string, api.Value) {
	with := func() api.Value { return pick(d, pick(d, near...), d.any(1)) }
	switch op := pick(d, "$eq", "$gt", "$gte", "$lt", "$lte", "$in", "$prefix"); op {
	case "$in":
		l := list()
		for range d.below(4) {
			l.List = append(l.List, with())
		}
		return op, l
	case "$prefix":
		return op, txt(pick(d, "", "x", "x ", "x y", "Y", "k", "\x00"))
	default:
		return op, with()
	}
}

// meant tells whether a test at a path holds of a document.
func meant(t *testing.T, p, op string, with, d api.Value) bool {
	t.Helper()
	f, e := filter.Parse(doc(of(p, doc(of(op, with)))))
	if e != api.OK {
		t.Fatal(p, op, with, e)
	}
	is, e := f.Match(d)
	if e != api.OK {
		t.Fatal(p, op, with, e)
	}
	return is
}

// TestFound: if a test holds of a document, one of the keys is the key of a value of which it holds; and the other way round, if the path leads to something (P10.5).
func TestFound(t *testing.T) {
	d := dice(3)
	yes, no, nothing := map[string]int{}, map[string]int{}, 0
	for range 30000 {
		v, p := d.document(3), d.path()
		x := on(api.IndexField{Path: p, Desc: d.below(2) == 0})
		keys, e := index.Keys(x, v)
		if e != api.OK {
			continue
		}
		op, with := d.test(shows(v, p))
		found := slices.ContainsFunc(keys, func(key []byte) bool {
			l, f := keyenc.Read(key, descOf(x))
			return f.Code == api.OK && holds(op, l[0], with)
		})
		is := meant(t, p, op, with, v)
		leads := len(path.Reach(v, strings.Split(p, "."))) > 0
		if is && !found || found && !is && leads {
			t.Fatalf("%s %s %v of %v: %v, by the keys %v", p, op, with, v, is, found)
		}
		switch {
		case is:
			yes[op]++
		case found:
			nothing++
		default:
			no[op]++
		}
	}
	for _, op := range []string{"$eq", "$gt", "$gte", "$lt", "$lte", "$in", "$prefix"} {
		if yes[op] < 100 || no[op] < 100 {
			t.Error("too few", op, yes[op], no[op])
		}
	}
	if nothing < 10 {
		t.Error("too few that lead to nothing", nothing)
	}
}

// TestAtLeastOne: no document is without a key in an index that is not Text (P10.6).
func TestAtLeastOne(t *testing.T) {
	d := dice(4)
	none := 0
	for range 20000 {
		v, x := d.document(3), d.index()
		l, e := index.Keys(x, v)
		if len(l) == 0 && e == api.OK {
			if none++; !x.Text {
				t.Fatalf("%v of %v: no keys", x, v)
			}
		}
	}
	if none < 100 {
		t.Error("too few without words", none)
	}
}

// moved is another document in which other paths show the same as an index's do in v.
func moved(x api.Index, v api.Value) (api.Index, api.Value) {
	y, w := x, doc(of("z", txt("x y")))
	y.Fields = nil
	for i, f := range x.Fields {
		name := "q" + strconv.Itoa(i)
		y.Fields = append(y.Fields, api.IndexField{Path: name + ".v", Desc: f.Desc})
		l := list()
		for _, r := range path.Reach(v, strings.Split(f.Path, ".")) {
			if r.Kind == 0 {
				r = null()
			}
			l.List = append(l.List, doc(of("v", r)))
		}
		slices.Reverse(l.List)
		w.Doc = append(w.Doc, of(name, l))
	}
	return y, w
}

// TestShownAlone: keys hang on what the paths show alone (P10.6).
func TestShownAlone(t *testing.T) {
	d := dice(5)
	done := 0
	for range 20000 {
		v, x := d.document(3), d.index()
		y, w := moved(x, v)
		if value.Right(w) != api.OK {
			continue
		}
		done++
		got, e := index.Keys(x, v)
		other, otherE := index.Keys(y, w)
		if e != otherE || !slices.EqualFunc(got, other, bytes.Equal) {
			t.Fatalf("%v of %v: %v, %s; moved: %v, %s", x, v, e, short(got), otherE, short(other))
		}
	}
	if done < 15000 {
		t.Error("too few", done)
	}
}

// TestFallsAsMany: an index whose field falls has as many keys as one whose field does not (P10.6).
func TestFallsAsMany(t *testing.T) {
	d := dice(6)
	for range 10000 {
		v, x := d.document(3), d.index()
		if x.Text {
			continue
		}
		got, e := index.Keys(x, v)
		at := d.below(len(x.Fields))
		x.Fields[at].Desc = !x.Fields[at].Desc
		if other, otherE := index.Keys(x, v); e != otherE || len(got) != len(other) {
			t.Fatalf("%v of %v: %v, %s; turned: %v, %s", x, v, e, short(got), otherE, short(other))
		}
	}
}

package index_test

import (
	"bytes"
	"slices"
	"strings"
	"testing"

	"coffret/api"
	"coffret/index"
	"coffret/keyenc"
	"coffret/path"
	"coffret/value"
	"coffret/words"
)

// dice are numbers that look like any, the same at each run.
type dice uint64

func (d *dice) below(n int) int {
	*d = *d*6364136223846793005 + 1442695040888963407
	return int(*d>>33) % n
}

func pick[T any](d *dice, l ...T) T { return l[d.below(len(l))] }

// flat is some value in which no other one stands.
func (d *dice) flat() api.Value {
	switch d.below(30) {
	case 0:
		return txt(strings.Repeat(pick(d, "k", "\x00", "k l "), pick(d, 300, 498, 996, 997, 998)))
	case 1, 2, 3, 4:
		return date(pick(d, -1000, 0, 5, api.MaxInt-5000, api.MaxInt, api.MinInt))
	case 5:
		return pick(d, kinds()...)
	}
	return pick(d, num(d.below(4)), num(-1), txt("x"), txt("x y"), txt("Y, z x"), null())
}

// any is some value, in which others stand at most so deep.
func (d *dice) any(deep int) api.Value {
	kind := d.below(10)
	switch {
	case deep == 0 || kind < 4:
		return d.flat()
	case kind < 7:
		v := list()
		for range d.below(5) {
			v.List = append(v.List, d.any(deep-1))
		}
		return v
	}
	return d.document(deep - 1)
}

// document is one of a few names, each at most once; seldom one of many numbers.
func (d *dice) document(deep int) api.Value {
	v := doc()
	for _, name := range []string{"a", "b", "0", "1"} {
		switch many := d.below(60); {
		case many == 0 && deep > 0:
			v.Doc = append(v.Doc, of(name, list(tiny(pick(d, 13, 19, 50, 199, 200))...)))
		case many < 40:
			v.Doc = append(v.Doc, of(name, d.any(deep)))
		}
	}
	return v
}

func (d *dice) path() string {
	l := []string{pick(d, "a", "b", "a", "b", "0")}
	for range pick(d, 0, 0, 1, 1, 2) {
		l = append(l, pick(d, "a", "b", "0", "1"))
	}
	return strings.Join(l, ".")
}

// index is one that may be.
func (d *dice) index() api.Index {
	x := api.Index{Name: pick(d, "i", "other"), Unique: d.below(2) == 0, Expire: -1}
	for range pick(d, 1, 1, 1, 2, 2, 3, 4) {
		f := api.IndexField{Path: d.path(), Desc: d.below(2) == 0}
		if !slices.ContainsFunc(x.Fields, func(g api.IndexField) bool { return g.Path == f.Path }) {
			x.Fields = append(x.Fields, f)
		}
	}
	switch {
	case d.below(3) == 0:
		x.Text, x.Unique = true, false
		for i := range x.Fields {
			x.Fields[i].Desc = false
		}
	case len(x.Fields) == 1 && d.below(2) == 0:
		x.Expire = pick(d, 0, 1, 5, 6, 1<<31-1)
	}
	return x
}

// shows is what a path shows in a document, word by word of chapter 8.
func shows(d api.Value, p string) []api.Value {
	var l []api.Value
	for _, v := range path.Reach(d, strings.Split(p, ".")) {
		if v.Kind == 0 {
			v = null()
		}
		l = append(append(l, v), v.List...)
	}
	if len(l) == 0 {
		return row(null())
	}
	return l
}

// choices are all rows of one value that each field's path shows; of rows that are alike one.
func choices(fields []api.IndexField, d api.Value) [][]api.Value {
	rows := [][]api.Value{nil}
	for _, f := range fields {
		var unlike []api.Value
		for _, v := range shows(d, f.Path) {
			if !slices.ContainsFunc(unlike, func(w api.Value) bool { return value.Compare(v, w) == 0 }) {
				unlike = append(unlike, v)
			}
		}
		var longer [][]api.Value
		for _, l := range rows {
			for _, v := range unlike {
				longer = append(longer, append(slices.Clone(l), v))
			}
		}
		rows = longer
	}
	return rows
}

// counted are the rows of the words of all texts that the fields' paths show.
func counted(fields []api.IndexField, d api.Value) [][]api.Value {
	counts := map[string]int{}
	for _, f := range fields {
		for _, v := range shows(d, f.Path) {
			if v.Kind != api.KindText {
				continue
			}
			for _, word := range words.Split(v.Text) {
				counts[word]++
			}
		}
	}
	var rows [][]api.Value
	for word, n := range counts {
		rows = append(rows, count(word, n))
	}
	return rows
}

// keys is Keys of an index and a document that may be.
func keys(x api.Index, d api.Value) ([][]byte, api.Errno) {
	rows := counted(x.Fields, d)
	if !x.Text {
		rows = choices(x.Fields, d)
	}
	if len(rows) > api.MaxKeys {
		return nil, api.ErrIndexMany
	}
	var l [][]byte
	for _, values := range rows {
		b, e := keyenc.Key(values, descOf(x))
		if e != api.OK {
			return nil, e
		}
		l = append(l, b)
	}
	slices.SortFunc(l, bytes.Compare)
	return l, api.OK
}

// TestKeysModel: Keys of many indexes and documents is the model's (P10.2).
func TestKeysModel(t *testing.T) {
	d := dice(1)
	told := map[api.Errno]int{}
	several, some := 0, 0
	for range 40000 {
		v, x := d.document(4), d.index()
		want, wantE := keys(x, v)
		told[wantE]++
		if len(want) > 1 && x.Text {
			some++
		}
		if len(want) > 3 && len(x.Fields) > 1 {
			several++
		}
		if got, e := index.Keys(x, v); e != wantE || !slices.EqualFunc(got, want, bytes.Equal) || e != api.OK && got != nil {
			t.Fatalf("%v of %v: %v, %s, want %v, %s", x, v, e, short(got), wantE, short(want))
		}
		if e := index.Right(x); e != api.OK {
			t.Fatalf("%v: %v", x, e)
		}
	}
	if told[api.ErrIndexMany] < 100 || told[api.ErrKeyLong] < 100 || several < 1000 || some < 1000 {
		t.Error("too few", told, several, some)
	}
}

// TestExpiresModel: Expires of many indexes and documents is the model's (P10.3).
func TestExpiresModel(t *testing.T) {
	d := dice(2)
	fine, beyond := 0, 0
	for range 100000 {
		v, x := d.document(3), d.index()
		var dates []int
		for _, y := range shows(v, x.Fields[0].Path) {
			if y.Kind == api.KindDate {
				dates = append(dates, y.Int)
			}
		}
		want, wantIs := 0, false
		if len(dates) > 0 && x.Expire >= 0 {
			want, wantIs = slices.Min(dates)+x.Expire*1000, true
			if want < slices.Min(dates) {
				want, wantIs = 0, false
				beyond++
			}
		}
		if wantIs {
			fine++
		}
		if got, is := index.Expires(x, v); got != want || is != wantIs {
			t.Fatalf("%v of %v: %d %v, want %d %v", x, v, got, is, want, wantIs)
		}
	}
	if fine < 300 || beyond < 50 {
		t.Error("too few", fine, beyond)
	}
}

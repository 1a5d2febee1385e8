package keyenc_test

import (
	"bytes"
	"slices"
	"testing"

	"coffret/api"
	"coffret/keyenc"
)

// roomy is v in lists that all have spare room, in which something stands.
func roomy(v api.Value) api.Value {
	if v.Kind == api.KindList {
		v.List = roomyRow(v.List)
	}
	if v.Kind == api.KindDoc {
		l := make([]api.Field, len(v.Doc)+3)
		for i := range l {
			l[i] = of("spare", txt("room"))
		}
		for i, f := range v.Doc {
			l[i] = of(f.Name, roomy(f.Value))
		}
		v.Doc = l[:len(v.Doc)]
	}
	return v
}

func roomyRow(l []api.Value) []api.Value {
	out := make([]api.Value, len(l)+3)
	for i := range out {
		out[i] = txt("spare")
	}
	for i, x := range l {
		out[i] = roomy(x)
	}
	return out[:len(l)]
}

// used is v with its lists' spare room as if it were used.
func used(v api.Value) api.Value {
	out := v
	out.List, out.Doc = usedRow(v.List), nil
	for _, f := range v.Doc[:cap(v.Doc)] {
		out.Doc = append(out.Doc, of(f.Name, used(f.Value)))
	}
	return out
}

func usedRow(l []api.Value) []api.Value {
	var out []api.Value
	for _, x := range l[:cap(l)] {
		out = append(out, used(x))
	}
	return out
}

// cells notes where all elements and fields of values lie, spare room too.
type cells struct {
	values map[*api.Value]bool
	fields map[*api.Field]bool
	shared bool
}

func (c *cells) note(l []api.Value) {
	l = l[:cap(l)]
	for i := range l {
		c.shared = c.shared || c.values[&l[i]]
		c.values[&l[i]] = true
		c.note(l[i].List)
		d := l[i].Doc[:cap(l[i].Doc)]
		for j := range d {
			c.shared = c.shared || c.fields[&d[j]]
			c.fields[&d[j]] = true
			c.note([]api.Value{d[j].Value}[:1:1])
		}
	}
}

// rows are of all shapes; the last ones are refused.
func rows() ([][]api.Value, [][]bool) {
	var l [][]api.Value
	var desc [][]bool
	d := dice(7)
	for range 1000 {
		a, b := d.row()
		l, desc = append(l, a), append(desc, b)
	}
	for _, bad := range [][]api.Value{row(flag(2)), row(num(1), txt("\xff")), row(list(num(1)), doc(of("a", list()), of("a", list()))), slices.Repeat(row(list(num(1))), 5), row(list(slices.Repeat(row(list(num(1))), 500)...))} {
		l, desc = append(l, bad), append(desc, make([]bool, len(bad)))
	}
	return l, desc
}

// TestKeyChangesNothing: what is handed in stays as it is, spare room too (P3.4).
func TestKeyChangesNothing(t *testing.T) {
	all, falls := rows()
	for i, l := range all {
		l, desc := roomyRow(l), append(slices.Clone(falls[i]), true, false, true)
		before, wasDesc := usedRow(l), slices.Clone(desc)
		keyenc.Key(l, desc[:len(l)])
		if !sameRows(usedRow(l), before) || !slices.Equal(desc, wasDesc) {
			t.Errorf("changed: %v %v", l, desc)
		}
	}
}

// TestReadChangesNothing: likewise of Read, and of After (P3.4).
func TestReadChangesNothing(t *testing.T) {
	keys := [][]byte{{}, {255}, {254, 255}, {1, 2, 255, 255}, {7, 0}}
	falls := [][]bool{{false}, {true}, {false, true}, {true, true}, {false}}
	for _, b := range noKeys() {
		keys, falls = append(keys, b, turned(b)), append(falls, up, down)
	}
	all, desc := rows()
	for i := range 1000 {
		keys, falls = append(keys, keyOf(t, all[i], desc[i])), append(falls, desc[i])
	}
	for i, key := range keys {
		b := append(append(make([]byte, 0, len(key)+8), key...), 1, 2, 255, 255)
		desc := append(slices.Clone(falls[i]), true, false, true)
		before, wasDesc := bytes.Clone(b), slices.Clone(desc)
		keyenc.Read(b[:len(key)], desc[:len(falls[i])])
		keyenc.After(b[:len(key)])
		wantBytes(t, "handed in", b, before)
		if !slices.Equal(desc, wasDesc) {
			t.Errorf("changed: %v", desc)
		}
	}
}

// TestNothingSharedByRead: what is read is new memory, and none of it is kept (P3.4).
func TestNothingSharedByRead(t *testing.T) {
	all, falls := rows()
	for i, l := range all[:1000] {
		b := keyOf(t, l, falls[i])
		first, _ := keyenc.Read(b, falls[i])
		second, f := keyenc.Read(b, falls[i])
		clear(b)
		if f != (api.Fault{}) || !sameRows(first, l) || !sameRows(second, l) {
			t.Errorf("%v is in the bytes' memory", l)
		}
		c := &cells{values: map[*api.Value]bool{}, fields: map[*api.Field]bool{}}
		c.note(first)
		c.note(second)
		if c.shared {
			t.Errorf("%v: memory is shared", l)
		}
	}
}

// TestNothingSharedByKey: a key is new memory, and none of it is kept (P3.4).
func TestNothingSharedByKey(t *testing.T) {
	all, falls := rows()
	for i, l := range all[:1000] {
		l := roomyRow(l)
		first := keyOf(t, l, falls[i])
		want := bytes.Clone(first)
		second := keyOf(t, l, falls[i])
		clear(first[:cap(first)])
		wantBytes(t, "another answer", second, want)
		wantBytes(t, "a later one", keyOf(t, l, falls[i]), want)
		clear(l)
		wantBytes(t, "another row", second, want)
	}
}

// TestNothingSharedByAfter: likewise of After, with spare room ahead and behind (P3.4).
func TestNothingSharedByAfter(t *testing.T) {
	for _, x := range []struct{ b, want []byte }{{[]byte{7, 1}, []byte{7, 2}}, {[]byte{7, 1, 255, 255}, []byte{7, 2}}, {[]byte{0}, []byte{1}}} {
		b := append(make([]byte, 0, 20), x.b...)
		before := bytes.Clone(b[:cap(b)])
		first, second := keyenc.After(b), keyenc.After(b)
		for _, got := range [][]byte{first, second} {
			wantBytes(t, "After", got, x.want)
			clear(got[:cap(got)])
			wantBytes(t, "handed in", b[:cap(b)], before)
		}
		first = keyenc.After(b)
		clear(b[:cap(b)])
		wantBytes(t, "After, kept", first, x.want)
	}
}

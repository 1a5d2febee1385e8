package bson_test

import (
	"bytes"
	"testing"

	"coffret/api"
	"coffret/bson"
)

// roomy is v in lists that all have spare room, in which something stands.
func roomy(v api.Value) api.Value {
	if v.Kind == api.KindList {
		l := make([]api.Value, len(v.List)+3)
		for i := range l {
			l[i] = txt("spare")
		}
		for i, x := range v.List {
			l[i] = roomy(x)
		}
		v.List = l[:len(v.List)]
	}
	if v.Kind == api.KindDoc {
		l := make([]api.Field, len(v.Doc)+3)
		for i := range l {
			l[i] = of("spare", txt("room"))
		}
		for i, f := range v.Doc {
			l[i] = of(f.Name, roomy(f.Value))
		}
		v.Doc = l[:len(v.Doc)]
	}
	return v
}

// used is v with its lists' spare room as if it were used.
func used(v api.Value) api.Value {
	out := v
	out.List, out.Doc = nil, nil
	for _, x := range v.List[:cap(v.List)] {
		out.List = append(out.List, used(x))
	}
	for _, f := range v.Doc[:cap(v.Doc)] {
		out.Doc = append(out.Doc, of(f.Name, used(f.Value)))
	}
	return out
}

// cells notes where all elements and fields of values lie, spare room too.
type cells struct {
	values map[*api.Value]bool
	fields map[*api.Field]bool
	shared bool
}

func (c *cells) note(v api.Value) {
	l, d := v.List[:cap(v.List)], v.Doc[:cap(v.Doc)]
	for i := range l {
		c.shared = c.shared || c.values[&l[i]]
		c.values[&l[i]] = true
		c.note(l[i])
	}
	for i := range d {
		c.shared = c.shared || c.fields[&d[i]]
		c.fields[&d[i]] = true
		c.note(d[i].Value)
	}
}

// TestEncodeChangesNothing: what is handed in stays as it is, spare room too (P2.4).
func TestEncodeChangesNothing(t *testing.T) {
	wrong := []api.Value{a(flag(2)), list(num(1)), nest(num(1), 30, true), doc(of("a", list(num(1))), of("a", null()))}
	for _, seed := range append(samples(), wrong...) {
		v := roomy(seed)
		before := used(v)
		bson.Encode(v)
		if !same(used(v), before) {
			t.Errorf("changed: %v", seed)
		}
	}
}

// TestReadChangesNothing: bytes that are handed in stay as they are, spare room too (P2.4).
func TestReadChangesNothing(t *testing.T) {
	var all [][]byte
	for _, v := range samples() {
		all = append(all, encoded(t, v))
	}
	for _, x := range broken() {
		all = append(all, x.b)
	}
	for _, x := range all {
		b := append(append(make([]byte, 0, len(x)+8), x...), 1, 2, 3, 4)
		before := bytes.Clone(b)
		bson.Read(b[:len(x)], 0)
		bson.Decode(b[:len(x)])
		wantBytes(t, "handed in", b, before)
	}
}

// TestNothingSharedByRead: what is read is new memory, and none of it is kept (P2.4).
func TestNothingSharedByRead(t *testing.T) {
	for _, v := range samples() {
		b := encoded(t, v)
		first, _, _ := bson.Read(b, 0)
		second, f := bson.Decode(b)
		clear(b)
		if f.Code != api.OK || !same(first, v) || !same(second, v) {
			t.Errorf("%v is in the bytes' memory", v)
		}
		c := &cells{values: map[*api.Value]bool{}, fields: map[*api.Field]bool{}}
		c.note(first)
		c.note(second)
		if c.shared {
			t.Errorf("%v: memory is shared", v)
		}
	}
}

// TestNothingSharedByEncode: bytes are new memory, and none of it is kept (P2.4).
func TestNothingSharedByEncode(t *testing.T) {
	for _, v := range samples() {
		first := encoded(t, v)
		want := bytes.Clone(first)
		second := encoded(t, v)
		clear(first[:cap(first)])
		wantBytes(t, "another answer", second, want)
		wantBytes(t, "a later one", encoded(t, v), want)
	}
}

// TestMuchHandedIn: much that is nested, or long, ends without a panic (W1).
func TestMuchHandedIn(t *testing.T) {
	for _, docs := range []bool{false, true} {
		if b, e := bson.Encode(a(nest(num(1), 1<<16-2, docs))); e != api.ErrBig || len(b) != 0 {
			t.Error(e)
		}
	}
	var deep []byte
	for i := range 8000 {
		deep = append(append(deep, four(api.MaxDoc-8*i)...), 3, 97, 0)
	}
	deep = append(deep, make([]byte, api.MaxDoc-len(deep))...)
	wantFault(t, "nested", deep, 0, fault(api.ErrBsonDeep, 7*api.MaxDepth))
	wantFault(t, "noughts", make([]byte, 1<<24), 1<<23, fault(api.ErrBsonLength, 1<<23))
}

package bson_test

import (
	"bytes"
	"slices"
	"strconv"
	"strings"
	"testing"

	"coffret/api"
	"coffret/bson"
	"coffret/value"
)

// TestThereAndBack: Decode of Encode is the document, and it has value.Size bytes (P2.5).
func TestThereAndBack(t *testing.T) {
	for _, v := range append(samples(), biggest()) {
		b := encoded(t, v)
		if len(b) != value.Size(v) {
			t.Errorf("%v: %d bytes, not %d", v, len(b), value.Size(v))
		}
		got, f := bson.Decode(b)
		if f != (api.Fault{}) || !same(got, v) {
			t.Errorf("Decode(%s): %v %v, want %v", short(b), got, f, v)
		}
		wantBytes(t, "Encode of Decode", encoded(t, got), b)
	}
}

// dice are numbers that look like any, the same at each run.
type dice uint64

func (d *dice) below(n int) int {
	*d = *d*6364136223846793005 + 1442695040888963407
	return int(*d>>33) % n
}

// any is some right value, in which others stand at most so deep.
func (d *dice) any(deep int) api.Value {
	texts := []string{"", "a", "\x00", "\u00e9\u20ac", "longer than most of them", "\U0001f600\x00"}
	switch d.below(7 + 2*min(deep, 2)) {
	case 0:
		return api.Value{Kind: []int{api.KindMin, api.KindNull, api.KindMax}[d.below(3)]}
	case 1:
		return num(d.below(1<<30) << d.below(34))
	case 2:
		return date(-d.below(1<<30) << d.below(34))
	case 3:
		return txt(texts[d.below(len(texts))])
	case 4:
		return raw(texts[d.below(len(texts))] + "\xff"[d.below(2):])
	case 5:
		return id(strings.Repeat(string(rune('a'+d.below(26))), 12))
	case 6:
		return flag(d.below(2))
	case 7, 8:
		v := list()
		for range d.below(13) {
			v.List = append(v.List, d.any(deep-1))
		}
		return v
	}
	return d.doc(deep - 1)
}

func (d *dice) doc(deep int) api.Value {
	v := doc()
	for i := range d.below(6) {
		v.Doc = append(v.Doc, of([]string{"", "x.", "\u00e9"}[d.below(3)]+strconv.Itoa(i), d.any(deep)))
	}
	return v
}

// TestThereAndBackOfMany is P2.5 of documents of all shapes.
func TestThereAndBackOfMany(t *testing.T) {
	d := dice(1)
	for range 3000 {
		v := d.doc(4)
		if value.Right(v) != api.OK {
			t.Fatalf("not right: %v", v)
		}
		b := encoded(t, v)
		got, f := bson.Decode(b)
		if len(b) != value.Size(v) || f != (api.Fault{}) || !same(got, v) {
			t.Fatalf("Decode(%s): %v %v, want %v", short(b), got, f, v)
		}
	}
}

// TestReadAmongOthers: a document is read, whatever stands ahead and behind (P2.6).
func TestReadAmongOthers(t *testing.T) {
	others := [][]byte{nil, {0}, {255}, {5, 0, 0, 0, 0}, {0, 0, 0}, {10, 97, 0, 0}, slices.Repeat([]byte{255}, 70000)}
	for _, v := range samples() {
		b := encoded(t, v)
		for _, ahead := range others {
			for _, behind := range others {
				wantRead(t, "among others", slices.Concat(ahead, b, behind), len(ahead), v, len(ahead)+len(b))
			}
		}
	}
}

// TestReadOneByOne: documents one behind another, each from where the one ahead of it ends.
func TestReadOneByOne(t *testing.T) {
	var all []byte
	for _, v := range samples() {
		all = append(all, encoded(t, v)...)
	}
	at := 0
	for _, v := range samples() {
		end := at + value.Size(v)
		wantRead(t, "one by one", all, at, v, end)
		at = end
	}
	if at != len(all) {
		t.Error(at)
	}
}

// TestReadBeginnings: of a beginning of a document's bytes it is ErrBsonShort at its first byte (P2.6).
func TestReadBeginnings(t *testing.T) {
	for _, v := range samples() {
		b := encoded(t, v)
		for n := range len(b) {
			wantFault(t, "a beginning", b[:n], 0, fault(api.ErrBsonShort, 0))
			if n < 300 {
				wantFault(t, "a beginning behind others", append([]byte{7, 0, 0, 0, 0}, b[:n]...), 5, fault(api.ErrBsonShort, 5))
			}
		}
	}
}

// TestReadAnything: whatever the bytes, a document that is right and that these bytes are, or a fault within them (P2.2, P2.5, W1).
func TestReadAnything(t *testing.T) {
	d := dice(2)
	read, refused := 0, map[api.Errno]int{}
	check := func(b []byte, at int) {
		v, end, f := bson.Read(b, at)
		if f.Code != api.OK {
			refused[f.Code]++
			if end != 0 || !same(v, api.Value{}) || f.At < at || f.At > len(b) || f.Code < api.ErrBsonShort || f.Code > api.ErrBsonEnd {
				t.Fatalf("Read(%s, %d): %v %d %v", short(b), at, v, end, f)
			}
			return
		}
		read++
		if f.At != 0 || value.Right(v) != api.OK || value.Size(v) != end-at {
			t.Fatalf("Read(%s, %d): %v %d %v", short(b), at, v, end, f)
		}
		if back, e := bson.Encode(v); e != api.OK || !bytes.Equal(back, b[at:end]) {
			t.Fatalf("Read(%s, %d): %v, whose bytes are %s", short(b), at, v, short(back))
		}
	}
	for range 2000 {
		b := encoded(t, d.doc(3))
		for range 10 {
			b[d.below(len(b))] = []byte{0, 1, 2, 3, 4, 5, 7, 8, 10, 18, 48, 97, 127, 128, 255, byte(d.below(256))}[d.below(16)]
			check(b, 0)
			check(b, d.below(len(b)+1))
		}
	}
	if read < 100 || len(refused) < 6 {
		t.Error("the bytes are too much alike: ", read, refused)
	}
}

// TestReadEachKind: each byte that may tell a kind, by itself.
func TestReadEachKind(t *testing.T) {
	kinds := map[int]api.Value{2: txt(""), 3: doc(), 4: list(), 5: raw(""), 7: id("\x05\x00\x00\x00\x00\x00\x00\x00\x00\x00\x00\x00"), 8: flag(1), 9: date(5), 10: null(), 18: num(5), 127: {Kind: api.KindMax}, 255: {Kind: api.KindMin}}
	of := map[int][]byte{2: {1, 0, 0, 0, 0}, 3: {5, 0, 0, 0, 0}, 4: {5, 0, 0, 0, 0}, 5: {0, 0, 0, 0, 0}, 7: {5, 0, 0, 0, 0, 0, 0, 0, 0, 0, 0, 0}, 8: {1}, 9: {5, 0, 0, 0, 0, 0, 0, 0}, 18: {5, 0, 0, 0, 0, 0, 0, 0}}
	for code := range 256 {
		b := whole(part(byte(code), "a", of[code]...))
		v, known := kinds[code]
		if known {
			wantRead(t, "kind "+strconv.Itoa(code), b, 0, a(v), len(b))
		} else if code == 0 {
			wantFault(t, "kind 0", b, 0, fault(api.ErrBsonEnd, 4))
		} else {
			wantFault(t, "kind "+strconv.Itoa(code), b, 0, fault(api.ErrBsonKind, 4))
		}
	}
}

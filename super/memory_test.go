package super_test

import (
	"bytes"
	"slices"
	"testing"

	"coffret/super"
)

// spoil writes over a list, its spare room too.
func spoil(b []byte) {
	room := b[:cap(b)]
	for i := range room {
		room[i] = 99
	}
}

// TestNothingChanged: what is handed in stays as it is, with what stands in its spare room (W6).
func TestNothingChanged(t *testing.T) {
	for _, b := range [][]byte{saying(example), other(saying(example), 0, 1), ofBody(1, nil), nothing(), nil} {
		all := append(bytes.Clone(b), 5, 5, 5, 5)
		before := slices.Clone(all)
		for number := range 3 {
			super.Open(all[:len(b)], number)
			super.Open(all, number)
		}
		super.Choose(all[:len(b)], all[:len(b)])
		super.Choose(all, all)
		if !slices.Equal(all, before) {
			t.Error("a page's bytes have changed")
		}
	}
}

// TestMakeNew: a page shares no memory with another one (W6).
func TestMakeNew(t *testing.T) {
	one, _ := super.Make(example)
	two, _ := super.Make(example)
	spoil(one)
	if !bytes.Equal(two, saying(example)) {
		t.Error("two pages share memory")
	}
	wantMake(t, example)
	wantOpen(t, "spoilt ahead", saying(example), 1, example)
}

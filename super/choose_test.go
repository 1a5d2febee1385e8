package super_test

import (
	"bytes"
	"testing"

	"coffret/api"
)

// refused are the bytes of some pages of that number that Open does not take.
func refused(number int) [][]byte {
	own := example
	own.Version += 1 - number
	wrong := own
	wrong.Root = wrong.Pages
	return [][]byte{
		nil,
		{},
		nothing(),
		bytes.Repeat([]byte{255}, api.PageSize),
		other(saying(own), 0, 1),
		saying(own)[:512],
		sayingAt(1-number, own),
		sayingAt(2+number, own),
		sayingAt(number, wrong),
		paged(uint32(number), 2, 36, saying(own)[11:47]...),
		ofBody(number, saying(own)[11:46]),
		ofBody(number, nil),
		sayingAt(number, api.Super{Version: api.MaxVersion - 1 + number, Root: 0, Epoch: 1, Pages: 20}),
		sayingAt(number, api.Super{Version: api.MaxVersion + 2 - number, Root: 0, Epoch: 1, Pages: 20}),
	}
}

// at are some superblocks whose page has that number, of versions that rise.
func at(number int) []api.Super {
	var l []api.Super
	for i, version := range []int{2, 4, 256, 1 << 32, api.MaxVersion - 2, api.MaxVersion} {
		l = append(l, api.Super{Version: version - number, Root: 15 - i, Epoch: api.MaxVersion - version/2, Pages: 30 - i - number})
	}
	return l
}

// TestChooseExamples are the chapter's (P14.3).
func TestChooseExamples(t *testing.T) {
	older := example
	older.Version = 2
	wantChoose(t, "two", saying(older), saying(example), example)
	wantChoose(t, "one", nil, saying(example), example)
	wantNoChoose(t, "none", nil, nil)
}

// TestChooseTwo: of two the one with the greater version, whatever else they say (P14.3).
func TestChooseTwo(t *testing.T) {
	for _, a := range at(0) {
		for _, b := range at(1) {
			want := a
			if b.Version > a.Version {
				want = b
			}
			wantChoose(t, "two", saying(a), saying(b), want)
		}
	}
	for version := 1; version < 300; version++ {
		a, b := example, example
		a.Version, a.Root = version+version&1, 1
		b.Version, b.Root = version+1-version&1, 2
		want := a
		if b.Version > a.Version {
			want = b
		}
		wantChoose(t, "neighbours", saying(a), saying(b), want)
	}
}

// TestChooseAny: of any two (P14.3).
func TestChooseAny(t *testing.T) {
	d := dice(2)
	for range 5000 {
		a, b := d.super(), d.super()
		a.Version += a.Version & 1
		b.Version -= 1 - b.Version&1
		want := a
		if b.Version > a.Version {
			want = b
		}
		wantChoose(t, "any", saying(a), saying(b), want)
	}
}

// TestChooseOne: the one that is taken, if the other one is not, of whatever version that says it is (P14.3).
func TestChooseOne(t *testing.T) {
	for _, s := range at(0) {
		for _, b := range refused(1) {
			wantChoose(t, "the first", saying(s), b, s)
		}
	}
	for _, s := range at(1) {
		for _, a := range refused(0) {
			wantChoose(t, "the second", a, saying(s), s)
		}
	}
}

// TestNoChoose: neither is taken; two that would be, each in the other one's place, are not (P14.3).
func TestNoChoose(t *testing.T) {
	for _, a := range refused(0) {
		for _, b := range refused(1) {
			wantNoChoose(t, "neither", a, b)
		}
	}
	for _, a := range at(0) {
		for _, b := range at(1) {
			wantNoChoose(t, "turned", saying(b), saying(a))
			wantNoChoose(t, "the first twice", nil, saying(a))
			wantNoChoose(t, "the second twice", saying(b), nil)
			wantChoose(t, "the first twice", saying(a), saying(a), a)
			wantChoose(t, "the second twice", saying(b), saying(b), b)
		}
	}
}

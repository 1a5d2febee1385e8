package super_test

import (
	"bytes"
	"slices"
	"testing"

	"coffret/api"
)

// TestOpenExamples are the chapter's (P14.2).
func TestOpenExamples(t *testing.T) {
	b := saying(example)
	wantOpen(t, "of these", b, 1, example)
	wantNoOpen(t, "of these", b, 0, api.ErrPagePlace)
	wantNoOpen(t, "of these", b, 2, api.ErrArg)
}

// TestOpenEdges: the least and the greatest numbers that may be, each beside the others' (P14.2).
func TestOpenEdges(t *testing.T) {
	for _, s := range rights() {
		wantOpen(t, "edge", saying(s), s.Version&1, s)
		wantNoOpen(t, "edge", saying(s), s.Version&1^1, api.ErrPagePlace)
	}
}

// TestNoOpenNumber: numbers that are neither 0 nor 1, of pages that have them, too (P14.2).
func TestNoOpenNumber(t *testing.T) {
	for _, s := range []api.Super{example, {Version: 2, Root: 0, Epoch: 1, Pages: 16}} {
		for _, number := range append(far(), -1, -2, 2, 3, 4, 16, 256, 257, 65535, 65536, 1<<32-1, 1<<32, 1<<32+1) {
			wantNoOpen(t, "far", saying(s), number, api.ErrArg)
			wantNoOpen(t, "its own", sayingAt(number, s), number, api.ErrArg)
			wantNoOpen(t, "none", nil, number, api.ErrArg)
		}
	}
}

// TestNoOpenPage: what is no page at all, and what is one of another place (P14.2).
func TestNoOpenPage(t *testing.T) {
	for number := range 2 {
		s := example
		s.Version += 1 - number
		b := saying(s)
		wantOpen(t, "whole", b, number, s)
		wantNoOpen(t, "nil", nil, number, api.ErrPageForm)
		wantNoOpen(t, "cut short", b[:4095], number, api.ErrPageForm)
		wantNoOpen(t, "its first sector", b[:512], number, api.ErrPageForm)
		wantNoOpen(t, "its body", b[11:47], number, api.ErrPageForm)
		wantNoOpen(t, "a byte more", append(bytes.Clone(b), 0), number, api.ErrPageForm)
		wantNoOpen(t, "two", slices.Concat(b, b), number, api.ErrPageForm)
		wantNoOpen(t, "nothing written", nothing(), number, api.ErrPageSum)
		for at := range 100 {
			wantNoOpen(t, "a byte turned", other(b, at, 1<<(at%8)), number, api.ErrPageSum)
		}
		wantNoOpen(t, "the last byte turned", other(b, 4095, 1), number, api.ErrPageSum)
		wantNoOpen(t, "another place", sayingAt(2, s), number, api.ErrPagePlace)
		wantNoOpen(t, "another place", sayingAt(1<<16+number, s), number, api.ErrPagePlace)
		wantNoOpen(t, "the other place", sayingAt(1-number, s), number, api.ErrPagePlace)
		body := b[11:47]
		wantNoOpen(t, "the kind 0", paged(uint32(number), 0, 36, body...), number, api.ErrPageForm)
		wantNoOpen(t, "too long", paged(uint32(number), 1, api.MaxBody+1, body...), number, api.ErrPageForm)
		wantNoOpen(t, "more behind", paged(uint32(number), 1, 36, append(bytes.Clone(body), 1)...), number, api.ErrPageForm)
		wantNoOpen(t, "more far behind", paged(uint32(number), 1, 36, append(append(bytes.Clone(body), make([]byte, 4000)...), 1)...), number, api.ErrPageForm)
	}
}

// TestNoOpenKind: pages of every other kind (P14.2).
func TestNoOpenKind(t *testing.T) {
	body := saying(example)[11:47]
	for kind := 2; kind < 256; kind++ {
		wantNoOpen(t, "kind", paged(1, byte(kind), 36, body...), 1, api.ErrSuper)
	}
}

// TestNoOpenLength: bodies of every other length, of which some end in 0, as what is behind a body does (P14.2).
func TestNoOpenLength(t *testing.T) {
	body := saying(example)[11:47]
	for n := range api.MaxBody + 1 {
		if n == 36 {
			continue
		}
		longer := append(bytes.Clone(body), make([]byte, api.MaxBody)...)
		wantNoOpen(t, "length", ofBody(1, longer[:n]), 1, api.ErrSuper)
	}
	wantNoOpen(t, "twice", ofBody(1, slices.Concat(body, body)), 1, api.ErrSuper)
	wantNoOpen(t, "a byte ahead", ofBody(1, append([]byte{0}, body...)), 1, api.ErrSuper)
}

// TestNoOpenMark: every other byte in each place of the mark (P14.2).
func TestNoOpenMark(t *testing.T) {
	body := saying(example)[11:47]
	for at := range 4 {
		for by := 1; by < 256; by++ {
			wantNoOpen(t, "mark", ofBody(1, other(body, at, byte(by))), 1, api.ErrSuper)
		}
	}
	turned := bytes.Clone(body)
	slices.Reverse(turned[:4])
	wantNoOpen(t, "the mark turned", ofBody(1, turned), 1, api.ErrSuper)
	wantNoOpen(t, "no mark", ofBody(1, body[4:]), 1, api.ErrSuper)
}

// TestNoOpenSaying: bodies of the form whose superblock may not be (P14.2).
func TestNoOpenSaying(t *testing.T) {
	for _, s := range wrongs() {
		for number := range 2 {
			wantNoOpen(t, "wrong", sayingAt(number, s), number, api.ErrSuper)
		}
	}
}

// TestNoOpenGreat: numbers above 2^63 - 1, and those that have further bits above ones that may be (P14.2).
func TestNoOpenGreat(t *testing.T) {
	for i := range 4 {
		for bit := 41; bit < 64; bit++ {
			n := []uint64{3, 9, 2, 20}
			n[i] |= 1 << bit
			wantNoOpen(t, "a bit", ofBody(1, said(n[0], n[1], n[2], n[3])), 1, api.ErrSuper)
		}
		for _, great := range []uint64{1 << 63, 1<<63 + 1, 1<<63 + 20, 1<<64 - 2, 1<<64 - 1} {
			n := []uint64{3, 9, 2, 20}
			n[i] = great
			for number := range 2 {
				wantNoOpen(t, "great", ofBody(number, said(n[0], n[1], n[2], n[3])), number, api.ErrSuper)
			}
		}
	}
}

// TestNoOpenOther: of a version whose page is the other one (P14.2).
func TestNoOpenOther(t *testing.T) {
	for _, version := range versions() {
		s := example
		s.Version = version
		wantNoOpen(t, "the other one's", sayingAt(version&1^1, s), version&1^1, api.ErrSuper)
		wantOpen(t, "its own", sayingAt(version&1, s), version&1, s)
	}
}

// TestFirstOfTheErrors: of several the one that is named first is told (P14.2, W4).
func TestFirstOfTheErrors(t *testing.T) {
	wrong := example
	wrong.Epoch = 0
	for _, b := range [][]byte{sayingAt(1, wrong), paged(1, 2, 36, saying(example)[11:47]...), ofBody(1, nil), sayingAt(1, api.Super{Version: 2, Epoch: 1, Pages: 16})} {
		wantNoOpen(t, "super", b, 1, api.ErrSuper)
		wantNoOpen(t, "super and place", b, 0, api.ErrPagePlace)
		wantNoOpen(t, "super and sum", other(b, 0, 1), 1, api.ErrPageSum)
		wantNoOpen(t, "super and form", b[:4000], 1, api.ErrPageForm)
		for _, number := range []int{-1, 2, 3} {
			wantNoOpen(t, "super and number", b, number, api.ErrArg)
			wantNoOpen(t, "super, sum and number", other(b, 0, 1), number, api.ErrArg)
		}
	}
	wantNoOpen(t, "kind 0 and mark", paged(1, 0, 4, 1, 2, 3, 4), 1, api.ErrPageForm)
}

package page_test

import (
	"bytes"
	"slices"
	"testing"

	"coffret/api"
)

// TestOpenExamples are the chapter's (P12.2).
func TestOpenExamples(t *testing.T) {
	b := written(3, 2, 2, 7, 8)
	wantOpen(t, "whole", b, 3, 2, []byte{7, 8})
	wantNoOpen(t, "of another number", b, 4, api.ErrPagePlace)
	wantNoOpen(t, "a byte turned", other(b, 12, 1), 3, api.ErrPageSum)
	wantNoOpen(t, "none", nil, 3, api.ErrPageForm)
}

// TestOpenEdges: the least and the greatest numbers, kinds and bodies that there are (P12.2).
func TestOpenEdges(t *testing.T) {
	for _, number := range []int{0, 1, 255, 256, 258, 65280, api.MaxPages - 1} {
		for _, kind := range []int{1, 2, 128, 254, 255} {
			for _, body := range edgeBodies() {
				b := written(uint32(number), byte(kind), len(body), body...)
				wantOpen(t, "edge", b, number, kind, body)
			}
		}
	}
	for kind := 1; kind <= 255; kind++ {
		wantOpen(t, "kind", written(5, byte(kind), 1, 2), 5, kind, []byte{2})
	}
}

// TestOpenBodyEnds: a body's last bytes are its own, if they are 0, too, and those behind it are not (P12.2).
func TestOpenBodyEnds(t *testing.T) {
	for n := range api.MaxBody + 1 {
		wantOpen(t, "of 0", written(6, 3, n), 6, 3, make([]byte, n))
		if n > 0 {
			body := append(make([]byte, n-1), 1)
			wantOpen(t, "up to a 1", written(6, 3, n, body...), 6, 3, body)
			wantNoOpen(t, "ahead of a 1", written(6, 3, n-1, body...), 6, api.ErrPageForm)
		}
	}
}

// TestOpenAnyNumber: of a page's number nothing is asked but that it is the one; no more than four bytes of it are held (P12.2).
func TestOpenAnyNumber(t *testing.T) {
	for _, number := range []uint32{api.MaxPages - 1, api.MaxPages, 1 << 24, 1<<31 - 1, 1 << 31, 1<<32 - 1} {
		b := written(number, 2, 1, 7)
		wantOpen(t, "number", b, int(number), 2, []byte{7})
		for _, n := range []int{int(number) + 1<<32, int(number) - 1<<32, int(number) - 1, int(number) + 1, -1, api.MinInt + int(number)} {
			wantNoOpen(t, "number", b, n, api.ErrPagePlace)
		}
	}
}

// TestNoOpenLength: bytes that are not as many as a page's, though they are parts of one, or more than one (P12.2).
func TestNoOpenLength(t *testing.T) {
	b := written(3, 2, 2, 7, 8)
	for n := range api.PageSize {
		wantNoOpen(t, "cut short", b[:n], 3, api.ErrPageForm)
		wantNoOpen(t, "cut short", b[:n:n], 3, api.ErrPageForm)
		wantNoOpen(t, "cut short ahead", b[api.PageSize-n:], 3, api.ErrPageForm)
	}
	wantNoOpen(t, "nothing, no nil", []byte{}, 3, api.ErrPageForm)
	wantNoOpen(t, "a byte more", append(bytes.Clone(b), 0), 3, api.ErrPageForm)
	wantNoOpen(t, "two", slices.Concat(b, b), 3, api.ErrPageForm)
	wantNoOpen(t, "a byte more, summed", summed(append(bytes.Clone(b), 0)), 3, api.ErrPageForm)
	wantNoOpen(t, "a byte fewer, summed", summed(bytes.Clone(b[:4095])), 3, api.ErrPageForm)
}

// TestNoOpenSum: another sum, and other bytes under it, at every place (P12.2).
func TestNoOpenSum(t *testing.T) {
	for _, b := range [][]byte{written(3, 2, 2, 7, 8), written(3, 255, api.MaxBody, bytes.Repeat([]byte{255}, api.MaxBody)...)} {
		for bit := range 32 {
			wantNoOpen(t, "sum", other(b, bit/8, 1<<(bit%8)), 3, api.ErrPageSum)
		}
		for at := range b {
			wantNoOpen(t, "byte", other(b, at, 255), 3, api.ErrPageSum)
		}
	}
	wantNoOpen(t, "all 0", make([]byte, api.PageSize), 0, api.ErrPageSum)
	wantNoOpen(t, "all 255", bytes.Repeat([]byte{255}, api.PageSize), 1<<32-1, api.ErrPageSum)
	b := written(3, 2, 2, 7, 8)
	slices.Reverse(b[:4])
	wantNoOpen(t, "the sum's highest byte first", b, 3, api.ErrPageSum)
}

// TestNoOpenPlace: under every number but its own (P12.2).
func TestNoOpenPlace(t *testing.T) {
	for _, own := range []int{0, 3, 256, api.MaxPages - 1} {
		b := written(uint32(own), 2, 2, 7, 8)
		for number := -2; number < 600; number++ {
			if number != own {
				wantNoOpen(t, "near", b, number, api.ErrPagePlace)
			}
		}
		for bit := range 64 {
			wantNoOpen(t, "a bit", b, own^1<<bit, api.ErrPagePlace)
		}
		for _, number := range far() {
			wantNoOpen(t, "far", b, number, api.ErrPagePlace)
		}
	}
}

// TestNoOpenKind: the kind 0 is none (P12.2).
func TestNoOpenKind(t *testing.T) {
	for _, body := range edgeBodies() {
		wantNoOpen(t, "kind", written(3, 0, len(body), body...), 3, api.ErrPageForm)
	}
}

// TestNoOpenBody: lengths above the greatest, whatever stands there (P12.2).
func TestNoOpenBody(t *testing.T) {
	full := bytes.Repeat([]byte{9}, api.MaxBody)
	for _, n := range []int{4086, 4087, 4095, 4096, 4097, 8192, 1 << 15, 65534, 65535} {
		wantNoOpen(t, "length", written(3, 2, n), 3, api.ErrPageForm)
		wantNoOpen(t, "length", written(3, 2, n, full...), 3, api.ErrPageForm)
	}
}

// TestNoOpenBehind: a byte behind the body that is not 0, at every place (P12.2).
func TestNoOpenBehind(t *testing.T) {
	for _, n := range []int{0, 1, 2, 600, 4000, 4084} {
		for at := n; at < api.MaxBody; at++ {
			rest := make([]byte, at+1)
			rest[at] = 1 << (at % 8)
			wantNoOpen(t, "behind", written(3, 2, n, rest...), 3, api.ErrPageForm)
		}
	}
}

// TestFirstOfTheErrors: of several the one that is named first is told (P12.2, W4).
func TestFirstOfTheErrors(t *testing.T) {
	for _, bad := range [][]byte{written(3, 0, 0), written(3, 2, 4086), written(3, 2, 0, 1), written(3, 0, 65535, 1)} {
		wantNoOpen(t, "form", bad, 3, api.ErrPageForm)
		wantNoOpen(t, "form and place", bad, 4, api.ErrPagePlace)
		wantNoOpen(t, "form and sum", other(bad, 0, 1), 3, api.ErrPageSum)
		wantNoOpen(t, "form, place and sum", other(bad, 0, 1), 4, api.ErrPageSum)
		wantNoOpen(t, "all of them", other(bad, 0, 1)[:4095], 4, api.ErrPageForm)
	}
	good := written(3, 2, 2, 7, 8)
	wantNoOpen(t, "place and sum", other(good, 0, 1), 4, api.ErrPageSum)
	wantNoOpen(t, "place and length", append(bytes.Clone(good), 0), 4, api.ErrPageForm)
	wantNoOpen(t, "sum and length", append(other(good, 0, 1), 0), 3, api.ErrPageForm)
}

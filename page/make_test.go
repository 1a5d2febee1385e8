package page_test

import (
	"bytes"
	"testing"

	"coffret/api"
	"coffret/page"
)

// TestMakeExamples are the chapter's (P12.1).
func TestMakeExamples(t *testing.T) {
	wantMake(t, 3, 2, []byte{7, 8})
	b, _ := page.Make(3, 2, []byte{7, 8})
	if len(b) != 4096 || !bytes.Equal(b[4:13], []byte{3, 0, 0, 0, 2, 2, 0, 7, 8}) || !bytes.Equal(b[13:], make([]byte, 4083)) {
		t.Errorf("%d bytes, %v", len(b), b[:20])
	}
	wantNoMake(t, -1, 2, 0)
	wantNoMake(t, 3, 0, 0)
	wantNoMake(t, 3, 1, 4086)
}

// TestMakeEdges: the least and the greatest numbers, kinds and bodies that there are (P12.1).
func TestMakeEdges(t *testing.T) {
	for _, number := range []int{0, 1, 255, 256, 258, 65280, api.MaxPages - 1} {
		for _, kind := range []int{1, 2, 128, 254, 255} {
			for _, body := range edgeBodies() {
				wantMake(t, number, kind, body)
			}
		}
	}
}

// TestMakeAll: numbers of all bytes, every kind, every length of a body (P12.1).
func TestMakeAll(t *testing.T) {
	for number := 0; number < api.MaxPages; number += 7 {
		wantMake(t, number, 1, []byte{1})
	}
	for kind := 1; kind <= 255; kind++ {
		wantMake(t, 5, kind, []byte{2})
	}
	for n := range api.MaxBody + 1 {
		wantMake(t, 6, 3, bytes.Repeat([]byte{9}, n))
	}
}

// TestMakeAny: any page (P12.1).
func TestMakeAny(t *testing.T) {
	d := dice(1)
	for range 5000 {
		wantMake(t, d.number(), d.kind(), d.body())
	}
}

// TestNoMakeNumber: numbers beside those that there are, and far from them (P12.1).
func TestNoMakeNumber(t *testing.T) {
	for _, number := range append(far(), -1, -2, api.MaxPages, api.MaxPages+1, 2*api.MaxPages) {
		for _, kind := range []int{1, 255, 0} {
			for _, length := range []int{0, api.MaxBody, api.MaxBody + 1} {
				wantNoMake(t, number, kind, length)
			}
		}
	}
}

// TestNoMakeKind: kinds beside those that there are, and far from them (P12.1).
func TestNoMakeKind(t *testing.T) {
	for _, kind := range append(far(), 0, -1, 256, 257, 512, 65537) {
		for _, number := range []int{0, 3, api.MaxPages - 1} {
			for _, length := range []int{0, 2, api.MaxBody} {
				wantNoMake(t, number, kind, length)
			}
		}
	}
}

// TestNoMakeBody: bodies that are too long, also by so much that two bytes would tell another length (P12.1).
func TestNoMakeBody(t *testing.T) {
	for _, length := range []int{api.MaxBody + 1, 4087, 4095, 4096, 4097, 65535, 65536, 65537, 65536 + api.MaxBody, 1 << 20} {
		wantNoMake(t, 0, 1, length)
		wantNoMake(t, 3, 255, length)
	}
}

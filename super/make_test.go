package super_test

import (
	"bytes"
	"testing"

	"coffret/api"
	"coffret/super"
)

// example is the chapter's s.
var example = api.Super{Version: 3, Root: 9, Epoch: 2, Pages: 20}

// TestMakeExamples are the chapter's (P14.1).
func TestMakeExamples(t *testing.T) {
	b, e := super.Make(example)
	want := []byte{1, 0, 0, 0, 1, 36, 0, 67, 70, 82, 84, 3, 0, 0, 0, 0, 0, 0, 0, 9, 0, 0, 0, 0, 0, 0, 0, 2, 0, 0, 0, 0, 0, 0, 0, 20, 0, 0, 0, 0, 0, 0, 0}
	if len(b) != 4096 || e != api.OK || !bytes.Equal(b[4:47], want) || !bytes.Equal(b[47:], make([]byte, 4096-47)) {
		t.Errorf("Make: %d bytes, %v", len(b), e)
	}
	wantMake(t, example)
	wantNoMake(t, api.Super{Version: 0, Root: 0, Epoch: 1, Pages: 20})
	wantNoMake(t, api.Super{Version: 1, Root: 20, Epoch: 1, Pages: 20})
	wantNoMake(t, api.Super{Version: 1, Root: 0, Epoch: 1, Pages: 15})
}

// TestMakeEdges: the least and the greatest numbers that may be, each beside the others' (P14.1).
func TestMakeEdges(t *testing.T) {
	for _, s := range rights() {
		wantMake(t, s)
	}
}

// TestMakeAny: any superblock that may be (P14.1).
func TestMakeAny(t *testing.T) {
	d := dice(1)
	for range 5000 {
		wantMake(t, d.super())
	}
}

// TestMakeOneSector: all of it that is not 0 stands in its page's first sector (P14.7).
func TestMakeOneSector(t *testing.T) {
	for _, s := range rights() {
		b, e := super.Make(s)
		if e != api.OK || len(b) != api.PageSize || !bytes.Equal(b[api.SectorSize:], make([]byte, api.PageSize-api.SectorSize)) {
			t.Errorf("Make(%v): %d bytes, %v", s, len(b), e)
		}
	}
}

// TestNoMake: superblocks of which one number may not be (P14.1).
func TestNoMake(t *testing.T) {
	for _, s := range wrongs() {
		wantNoMake(t, s)
	}
	wantNoMake(t, api.Super{})
	wantNoMake(t, api.Super{Version: api.MinInt, Root: api.MinInt, Epoch: api.MinInt, Pages: api.MinInt})
	wantNoMake(t, api.Super{Version: api.MaxInt, Root: api.MaxInt, Epoch: api.MaxInt, Pages: api.MaxInt})
}

package journal_test

import (
	"bytes"
	"testing"

	"coffret/api"
	"coffret/journal"
)

// TestFrameExamples are the chapter's (P15.1).
func TestFrameExamples(t *testing.T) {
	f, e := journal.Frame(1, 0, []byte{7, 8})
	ahead := []byte{2, 0, 0, 0, 1, 0, 0, 0, 0, 0, 0, 0, 0, 0, 0, 0}
	if e != api.OK || len(f) != 22 || !bytes.Equal(f[:16], ahead) || !bytes.Equal(f[20:], []byte{7, 8}) {
		t.Errorf("Frame: %v, %v", f, e)
	}
	wantFrame(t, 1, 0, []byte{7, 8})
	wantNoFrame(t, 0, 0, nil, api.ErrArg)
	wantNoFrame(t, 1, -1, nil, api.ErrArg)
}

// TestFrameEdges: the least and the greatest numbers that there are, each beside the other's (P15.1).
func TestFrameEdges(t *testing.T) {
	for _, epoch := range epochs() {
		for _, number := range []int{0, 1, 127, 255, 256, 65535, 65536, 1 << 24, 1<<31 - 2, 1<<31 - 1} {
			for _, n := range []int{0, 1, 2, 3, 255, 256, 484, 485, 65535, 65536} {
				wantFrame(t, epoch, number, full(n))
			}
		}
	}
	wantFrame(t, 1, 0, []byte{})
	wantFrame(t, 1, 0, make([]byte, 300))
}

// TestFrameAny: any ones (P15.1).
func TestFrameAny(t *testing.T) {
	d := dice(1)
	for range 5000 {
		wantFrame(t, d.epoch(), d.below(1<<31)>>d.below(31), d.record(3000))
	}
}

// TestNoFrame: what is no epoch, what is no number (P15.1).
func TestNoFrame(t *testing.T) {
	numbers := []int{-1, -2, 1 << 31, 1<<31 + 1, 1<<32 - 1, 1 << 32, 1<<32 + 1, 1 << 62, api.MaxInt, api.MinInt}
	for _, epoch := range noEpochs() {
		wantNoFrame(t, epoch, 0, []byte{7, 8}, api.ErrArg)
		wantNoFrame(t, epoch, 1<<31-1, nil, api.ErrArg)
		for _, number := range numbers {
			wantNoFrame(t, epoch, number, nil, api.ErrArg)
		}
	}
	for _, epoch := range epochs() {
		for _, number := range numbers {
			wantNoFrame(t, epoch, number, []byte{7, 8}, api.ErrArg)
		}
	}
}

// TestFrameLong: a record has at most 2^28 bytes; of two errors the one that is named first is told (P15.1, W4).
func TestFrameLong(t *testing.T) {
	b := full(longest + 1)
	wantFrame(t, 2, 5, b[:longest])
	wantNoFrame(t, 2, 5, b, api.ErrLong)
	wantNoFrame(t, 0, 5, b, api.ErrArg)
	wantNoFrame(t, 2, -1, b, api.ErrArg)
	wantNoFrame(t, 2, 1<<31, b, api.ErrArg)
}

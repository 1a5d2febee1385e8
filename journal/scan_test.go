package journal_test

import (
	"bytes"
	"encoding/binary"
	"slices"
	"testing"

	"coffret/api"
)

// TestScanExamples are the chapter's (P15.2).
func TestScanExamples(t *testing.T) {
	b := laidOf(1, []byte{7, 8})
	wantScan(t, "its epoch", b, 1, 22, []byte{7, 8})
	wantScan(t, "another epoch", b, 2, 0)
	wantScan(t, "less than a sector", b[:511], 1, 0)
}

// TestScanSizes: records of all lengths, one behind another and a short one behind them, so that a frame begins at each place at which one may (P15.2).
func TestScanSizes(t *testing.T) {
	for n := range 2*part + 50 {
		l := [][]byte{full(n), {1}, nil, full(n), {2, 3}}
		wantScan(t, "sizes", laidOf(3, l...), 3, len(streamOf(3, l...)), l...)
	}
	for _, epoch := range epochs() {
		wantScan(t, "epoch", laidOf(epoch, full(600), nil), epoch, 640, full(600), nil)
	}
}

// TestScanAny: any rows of records, with what is left of a sector behind them (P15.2).
func TestScanAny(t *testing.T) {
	d := dice(2)
	for range 500 {
		var l [][]byte
		for range d.below(20) {
			l = append(l, d.record(3000))
		}
		epoch := d.epoch()
		b := append(laidOf(epoch, l...), full(d.below(512))...)
		wantScan(t, "any", b, epoch, len(streamOf(epoch, l...)), l...)
		wantScan(t, "another epoch", b, epoch+1, 0)
	}
}

// TestScanNothing: no bytes, no sector, no frame in it (P15.2).
func TestScanNothing(t *testing.T) {
	wantScan(t, "nil", nil, 1, 0)
	wantScan(t, "none", []byte{}, 1, 0)
	wantScan(t, "all 0", make([]byte, 2048), 1, 0)
	wantScan(t, "stamps alone", laid(1, make([]byte, 4*part)), 1, 0)
	wantScan(t, "255", laid(1, bytes.Repeat([]byte{255}, 4*part)), 1, 0)
	wantScan(t, "no stamps", streamOf(1, full(600)), 1, 0)
}

// TestScanCut: of a row that is cut anywhere the records are found whose frames stand in whole sectors (P15.2).
func TestScanCut(t *testing.T) {
	l := [][]byte{full(2), full(470), full(484), full(700), nil, full(1500), full(3)}
	b := laidOf(4, l...)
	for n := range len(b) + 1 {
		many := 0
		for many < len(l) && len(streamOf(4, l[:many+1]...)) <= n/512*part {
			many++
		}
		wantScan(t, "cut", b[:n], 4, len(streamOf(4, l[:many]...)), l[:many]...)
	}
}

// TestScanStamp: a sector of another stamp ends the stream, whatever stands in it (P15.2).
func TestScanStamp(t *testing.T) {
	l := [][]byte{full(2), full(470), full(484), full(700), nil, full(1500), full(3)}
	b := laidOf(4, l...)
	for at := 0; at < len(b); at += 512 {
		many := 0
		for len(streamOf(4, l[:many+1]...)) <= at/512*part {
			many++
		}
		for _, stamp := range []uint64{0, 3, 5, 4 << 8, 1<<32 + 4, 1<<40 + 4, 1<<63 + 4, 1<<63 - 1, 1<<64 - 1, 1<<64 - 4} {
			x := bytes.Clone(b)
			binary.LittleEndian.PutUint64(x[at:], stamp)
			wantScan(t, "stamp", x, 4, len(streamOf(4, l[:many]...)), l[:many]...)
		}
		for bit := range 64 {
			wantScan(t, "a bit", other(b, at+bit/8, 1<<(bit%8)), 4, len(streamOf(4, l[:many]...)), l[:many]...)
		}
	}
}

// TestScanOtherEpochs: sectors of other epochs behind, with frames of this epoch that would follow (P15.2).
func TestScanOtherEpochs(t *testing.T) {
	first := []byte{7}
	s := behind(streamOf(4, first, full(part-20-21)), frameOf(4, 2, []byte{8}))
	b := slices.Concat(laid(4, s[:part]), laid(5, s[part:]))
	wantScan(t, "another stamp", b, 4, part, first, full(part-41))
	wantScan(t, "its stamp", slices.Concat(laid(4, s[:part]), laid(4, s[part:])), 4, part+21, first, full(part-41), []byte{8})
	wantScan(t, "behind a gap", slices.Concat(laid(4, s[:part]), laid(5, full(part)), laid(4, s[part:])), 4, part, first, full(part-41))
}

// TestScanNoEpoch: what is no epoch, with sectors and frames of it (P15.2).
func TestScanNoEpoch(t *testing.T) {
	for _, epoch := range noEpochs() {
		b := laid(uint64(epoch), framed(2, uint64(epoch), 0, 7, 8))
		wantScan(t, "no epoch", b, epoch, 0)
		wantScan(t, "an epoch's frame", laid(uint64(epoch), framed(2, 1, 0, 7, 8)), epoch, 0)
		wantScan(t, "an epoch", b, 1, 0)
		wantScan(t, "no bytes", nil, epoch, 0)
		wantScan(t, "all 0", make([]byte, 1024), epoch, 0)
	}
}

// TestScanWrong: frames with a right sum that are none of a record of that epoch and number: those ahead are found, none behind (P15.2).
func TestScanWrong(t *testing.T) {
	for _, ahead := range [][][]byte{nil, {{5}}, {nil, full(481), {6}}} {
		n := uint32(len(ahead))
		s := streamOf(3, ahead...)
		right := framed(2, 3, n, 7, 8)
		more := frameOf(3, len(ahead)+1, []byte{9})
		l := append(slices.Clone(ahead), []byte{7, 8}, []byte{9})
		wantScan(t, "right", laid(3, slices.Concat(s, right, more)), 3, len(s)+43, l...)
		for _, wrong := range [][]byte{
			framed(2, 2, n, 7, 8),
			framed(2, 4, n, 7, 8),
			framed(2, 0, n, 7, 8),
			framed(2, 3<<8, n, 7, 8),
			framed(2, 3+1<<63, n, 7, 8),
			framed(2, 3+1<<41, n, 7, 8),
			framed(2, 3, n+1, 7, 8),
			framed(2, 3, n-1, 7, 8),
			framed(2, 3, n+1<<31, 7, 8),
			framed(2, 3, n+256, 7, 8),
			framed(1, 3, n, 7, 8),
			framed(3, 3, n, 7, 8),
			framed(2+1<<16, 3, n, 7, 8),
			framed(1<<32-1, 3, n, 7, 8),
			framed(1<<31, 3, n, 7, 8),
			slices.Concat([]byte{0}, right),
			right[1:],
			make([]byte, 22),
		} {
			wantScan(t, "wrong", laid(3, slices.Concat(s, wrong, more)), 3, len(s), ahead...)
			wantScan(t, "wrong, the right one behind", laid(3, slices.Concat(s, wrong, right)), 3, len(s), ahead...)
			wantScan(t, "wrong, much behind", laid(3, slices.Concat(s, wrong, full(5000))), 3, len(s), ahead...)
		}
	}
}

// TestScanOtherByte: of a frame in which a byte is another one none is found; those ahead are (P15.2).
func TestScanOtherByte(t *testing.T) {
	l := [][]byte{{5, 6}, full(600), {7}}
	s := streamOf(3, l...)
	for at := range s {
		many := 0
		for len(streamOf(3, l[:many+1]...)) <= at {
			many++
		}
		for _, by := range []byte{1, 128, 255} {
			wantScan(t, "a byte", laid(3, other(s, at, by)), 3, len(streamOf(3, l[:many]...)), l[:many]...)
		}
	}
}

// TestScanBegin: a head may end with its sector's part, and is found nowhere else than at the place at which it begins; what stands between two frames is nothing (P15.2).
func TestScanBegin(t *testing.T) {
	for left := 1; left <= 40; left++ {
		first := full(part - 20 - left)
		next := frameOf(6, 1, []byte{8, 9})
		at := part - left
		if left < 20 {
			at = part
		}
		s := slices.Concat(frameOf(6, 0, first), full(at-(part-left)), next)
		wantScan(t, "its place", laid(6, s), 6, at+22, first, []byte{8, 9})
		for i := part - left; i < part+30; i++ {
			if i != at {
				s := slices.Concat(frameOf(6, 0, first), make([]byte, i-(part-left)), next)
				wantScan(t, "another place", laid(6, s), 6, part-left, first)
			}
		}
	}
}

// TestScanEnd: where the stream ends behind a frame, or within the head or the bytes of the next one (P15.2).
func TestScanEnd(t *testing.T) {
	whole := full(part - 20)
	wantScan(t, "one sector", laidOf(1, whole), 1, part, whole)
	wantScan(t, "two", laidOf(1, whole, whole), 1, 2*part, whole, whole)
	long := full(part - 20 + 1)
	wantScan(t, "a byte too long", laidOf(1, long)[:512], 1, 0)
	wantScan(t, "a byte more", laidOf(1, long), 1, part+1, long)
	head := full(part - 40)
	wantScan(t, "a head at the end", laidOf(1, head, []byte{5})[:512], 1, part-20, head)
	wantScan(t, "a head at the end, without bytes", laidOf(1, head, nil)[:512], 1, part, head, nil)
	wantScan(t, "too little for a head", laidOf(1, full(part-39), nil)[:512], 1, part-19, full(part-39))
}

// TestScanLong: a record has at most 2^28 bytes (P15.2).
func TestScanLong(t *testing.T) {
	b := full(longest + 1)
	wantScan(t, "the longest", laidOf(2, []byte{1}, b[:longest], []byte{2}), 2, longest+62, []byte{1}, b[:longest], []byte{2})
	wantScan(t, "too long", laidOf(2, []byte{1}, b, []byte{2}), 2, 21, []byte{1})
}

// TestScanMany: more records than two bytes tell (P15.2).
func TestScanMany(t *testing.T) {
	l := make([][]byte, 70000)
	for i := range l {
		l[i] = []byte{byte(i), byte(i >> 8), byte(i >> 16)}[:i%4%3+1]
	}
	wantScan(t, "many", laidOf(api.MaxVersion, l...), api.MaxVersion, len(streamOf(api.MaxVersion, l...)), l...)
}

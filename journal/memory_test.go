package journal_test

import (
	"bytes"
	"slices"
	"testing"

	"coffret/block"
	"coffret/journal"
)

// spoil writes over a list, its spare room too.
func spoil(b []byte) {
	room := b[:cap(b)]
	for i := range room {
		room[i] = 99
	}
}

// TestNothingChanged: what is handed in stays as it is, with what stands in its spare room (W6).
func TestNothingChanged(t *testing.T) {
	j := begun(t, block.New(80).Disk(), 0, 10, 3)
	for _, n := range []int{0, 1, 464, 484, 485, 3000} {
		all := append(full(n), 5, 5, 5, 5)
		before := slices.Clone(all)
		journal.Frame(3, 0, all[:n])
		wantAppend(t, j, all[:n])
		if !slices.Equal(all, before) {
			t.Errorf("a record of %d bytes has changed", n)
		}
	}
	for _, b := range [][]byte{laidOf(3, full(5), full(700)), laidOf(3, full(700))[:1000], laid(3, full(700)), nil} {
		all := append(bytes.Clone(b), 5, 5, 5, 5)
		before := slices.Clone(all)
		journal.Scan(all[:len(b)], 3)
		journal.Scan(all, 3)
		if !slices.Equal(all, before) {
			t.Error("sectors have changed")
		}
	}
}

// TestFrameNew: a frame shares no memory with the record, nor with another frame (W6).
func TestFrameNew(t *testing.T) {
	for _, n := range []int{0, 1, 700} {
		b := full(n)
		one, _ := journal.Frame(3, 4, b)
		two, _ := journal.Frame(3, 4, b)
		spoil(one)
		if !bytes.Equal(b, full(n)) {
			t.Errorf("a frame of %d bytes shares them", n)
		}
		spoil(b)
		if !bytes.Equal(two, frameOf(3, 4, full(n))) {
			t.Errorf("two frames of %d bytes share memory", n)
		}
	}
}

// wantNew asks of two answers alike whether they share memory, with one another, or their records with those beside them.
func wantNew(t *testing.T, what string, one, two [][]byte, want ...[]byte) {
	t.Helper()
	for i, b := range one {
		spoil(b)
		if !alike(one[i+1:], want[i+1:]) || !alike(two, want) {
			t.Errorf("%s: the record %d is shared", what, i)
		}
	}
	clear(one)
	if !alike(two, want) {
		t.Errorf("%s: two answers share memory", what)
	}
}

// TestScanNew: the records share no memory with the sectors, nor with one another (W6).
func TestScanNew(t *testing.T) {
	want := [][]byte{full(5), full(1), full(700), nil, full(484), full(30), full(2)}
	b := laidOf(3, want...)
	one, _ := journal.Scan(b, 3)
	two, _ := journal.Scan(b, 3)
	wantNew(t, "Scan", one, two, want...)
	if !bytes.Equal(b, laidOf(3, want...)) {
		t.Error("records are the sectors'")
	}
	spoil(b)
	if !alike(two, want) {
		t.Error("records are the sectors'")
	}
}

// TestReadNew: nothing of what is read is the disk's (W6).
func TestReadNew(t *testing.T) {
	want := [][]byte{full(5), full(1), full(700), nil, full(484), full(30), full(2)}
	h := block.New(40)
	plant(h, 16, laidOf(3, want...))
	one, _ := journal.Read(h.Disk(), 2, 1, 3)
	two, _ := journal.Read(h.Disk(), 2, 1, 3)
	wantNew(t, "Read", one, two, want...)
	wantRead(t, "spoilt", h.Disk(), 2, 1, 3, want...)
}

// TestAppendKeeps: nothing of what was appended is kept, though it is written once more with the next record (W6).
func TestAppendKeeps(t *testing.T) {
	h := block.New(40)
	j := begun(t, h.Disk(), 2, 3, 9)
	var l [][]byte
	for _, n := range []int{5, 0, 464, 3, 484, 100, 504, 10, 1500, 7} {
		b := slices.Grow(full(n), 600)
		wantAppend(t, j, b)
		spoil(b)
		l = append(l, full(n))
		wantRead(t, "spoilt", h.Disk(), 2, 3, 9, l...)
	}
	want := block.New(40)
	plant(want, 16, laidOf(9, l...))
	if !bytes.Equal(sectors(h, 0, 40), sectors(want, 0, 40)) {
		t.Error("other bytes")
	}
}

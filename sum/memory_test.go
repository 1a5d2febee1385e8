package sum_test

import (
	"slices"
	"testing"

	"coffret/sum"
)

// TestNothingChanged: bytes that are handed in stay as they are, with what stands in their spare room (W6).
func TestNothingChanged(t *testing.T) {
	d := dice(12)
	for range 3000 {
		all := append(d.bytes(40), 1, 2, 3)
		before := slices.Clone(all)
		b := all[:d.below(len(all))]
		sum.Sum(b)
		sum.More(d.sum(), b)
		sum.Read(b, d.below(len(b)+1), 1+d.below(8))
		if !slices.Equal(all, before) {
			t.Fatalf("%v became %v", before, all)
		}
	}
}

// TestNothingKept: what is done to an answer, spare room too, changes no later answer (W6).
func TestNothingKept(t *testing.T) {
	for range 3 {
		for size := 1; size <= 8; size++ {
			b, _ := sum.Number(5, size)
			other, _ := sum.Number(5, size)
			wantNumber(t, 5, size, b...)
			room := b[:cap(b)]
			for i := range room {
				room[i] = 77
			}
			want := make([]byte, size)
			want[0] = 5
			if !slices.Equal(other, want) {
				t.Errorf("two answers share memory: %v", other)
			}
			wantNumber(t, 5, size, want...)
		}
	}
}

// TestSameAgain: what is told hangs on the arguments alone, whatever was asked meanwhile (W2).
func TestSameAgain(t *testing.T) {
	first := asked(dice(13))
	asked(dice(14))
	if second := asked(dice(13)); !slices.Equal(first, second) {
		t.Error("another answer, asked again")
	}
}

// asked are the answers to many questions.
func asked(d dice) []int {
	var l []int
	for range 2000 {
		b := d.bytes(30)
		more, _ := sum.More(d.sum(), b)
		join, _ := sum.Join(d.sum(), d.sum(), d.number())
		number, _ := sum.Number(d.number(), 1+d.below(8))
		n, e := sum.Read(b, d.below(len(b)+1), 1+d.below(8))
		l = append(l, sum.Sum(b), more, join, n, int(e))
		for _, c := range number {
			l = append(l, int(c))
		}
	}
	return l
}

package sum_test

import (
	"bytes"
	"testing"

	"coffret/api"
	"coffret/sum"
)

// full is the greatest sum.
const full = 1<<32 - 1

// turned is the chapter's turn.
func turned(n int) int {
	if n%2 == 1 {
		return n/2 ^ 3988292384
	}
	return n / 2
}

// turnedEight is a number, turned eight times n times, turn by turn.
func turnedEight(x, n int) int {
	for range 8 * n {
		x = turned(x)
	}
	return x
}

// more is More, word by word of the chapter.
func more(s int, b []byte) int {
	n := s ^ full
	for _, c := range b {
		n = turnedEight(n^int(c), 1)
	}
	return n ^ full
}

// noSums are numbers beside those that are sums, and far from them.
func noSums() []int {
	return []int{-1, full + 1, -full, -full - 1, full + 2, 1 << 33, 1 << 40, -1 << 32, api.MaxInt, api.MaxInt - 1, api.MinInt, api.MinInt + 1}
}

// edgeSums are the least ones, the greatest ones, those of one bit and those without it.
func edgeSums() []int {
	l := []int{0, 1, full, full - 1, 3988292384, 3421780262}
	for i := range 32 {
		l = append(l, 1<<i, full^1<<i)
	}
	return l
}

// noSizes are numbers beside the sizes, and far from them.
func noSizes() []int {
	return []int{0, 9, -1, -8, 10, 16, 64, 256, 257, 1 << 32, 1<<32 + 1, 1<<61 + 1, api.MaxInt, api.MinInt, api.MinInt + 1}
}

// dice are numbers that look like any, the same at each run.
type dice uint64

func (d *dice) below(n int) int {
	*d = *d*6364136223846793005 + 1442695040888963407
	return int(*d>>33) % n
}

// sum is any sum, sometimes one at an edge.
func (d *dice) sum() int {
	if d.below(4) == 0 {
		l := edgeSums()
		return l[d.below(len(l))]
	}
	return d.below(1<<16)<<16 | d.below(1<<16)
}

// number is any one from 0 on, of any number of bits.
func (d *dice) number() int {
	n := d.sum()<<31 | d.below(1<<31)
	return n >> d.below(63)
}

// bytes are at most so many, at times all the same.
func (d *dice) bytes(most int) []byte {
	b := make([]byte, d.below(most+1))
	same := d.below(4) == 0
	c := byte([]int{0, 255, 1, 128}[d.below(4)])
	for i := range b {
		b[i] = c
		if !same {
			b[i] = byte(d.below(256))
		}
	}
	return b
}

func wantMore(t *testing.T, what string, s int, b []byte, want int) {
	t.Helper()
	if n, e := sum.More(s, b); n != want || e != api.OK {
		t.Errorf("%s: More(%d, %d bytes): %d, %v, want %d", what, s, len(b), n, e, want)
	}
}

func wantSum(t *testing.T, what string, b []byte, want int) {
	t.Helper()
	if n := sum.Sum(b); n != want {
		t.Errorf("%s: Sum of %d bytes: %d, want %d", what, len(b), n, want)
	}
	wantMore(t, what, 0, b, want)
}

func wantJoin(t *testing.T, what string, x, y, n, want int) {
	t.Helper()
	if s, e := sum.Join(x, y, n); s != want || e != api.OK {
		t.Errorf("%s: Join(%d, %d, %d): %d, %v, want %d", what, x, y, n, s, e, want)
	}
}

func wantNoJoin(t *testing.T, x, y, n int) {
	t.Helper()
	if s, e := sum.Join(x, y, n); s != 0 || e != api.ErrArg {
		t.Errorf("Join(%d, %d, %d): %d, %v", x, y, n, s, e)
	}
}

func wantNumber(t *testing.T, n, size int, want ...byte) {
	t.Helper()
	if b, e := sum.Number(n, size); !bytes.Equal(b, want) || e != api.OK {
		t.Errorf("Number(%d, %d): %v, %v, want %v", n, size, b, e, want)
	}
}

func wantNoNumber(t *testing.T, n, size int) {
	t.Helper()
	if b, e := sum.Number(n, size); len(b) != 0 || e != api.ErrArg {
		t.Errorf("Number(%d, %d): %v, %v", n, size, b, e)
	}
}

func wantRead(t *testing.T, b []byte, at, size, want int) {
	t.Helper()
	if n, e := sum.Read(b, at, size); n != want || e != api.OK {
		t.Errorf("Read(%d bytes, %d, %d): %d, %v, want %d", len(b), at, size, n, e, want)
	}
}

func wantNoRead(t *testing.T, b []byte, at, size int, want api.Errno) {
	t.Helper()
	if n, e := sum.Read(b, at, size); n != 0 || e != want {
		t.Errorf("Read(%d bytes, %d, %d): %d, %v, want %v", len(b), at, size, n, e, want)
	}
}

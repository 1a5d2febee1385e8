package sum_test

import (
	"testing"

	"coffret/api"
	"coffret/sum"
)

// TestJoinExamples are the chapter's (P11.2).
func TestJoinExamples(t *testing.T) {
	wantJoin(t, "digits", sum.Sum([]byte("1234")), sum.Sum([]byte("56789")), 5, 3421780262)
	wantNoJoin(t, 0, 0, -1)
	wantJoin(t, "nothing behind", 7, 0, 0, 7)
}

// TestNoJoin: what is no sum, ahead or behind, and a number below 0 are refused (P11.2).
func TestNoJoin(t *testing.T) {
	for _, s := range noSums() {
		for _, n := range []int{0, 1, 5, api.MaxInt, -1} {
			wantNoJoin(t, s, 0, n)
			wantNoJoin(t, 0, s, n)
			wantNoJoin(t, full, s, n)
			wantNoJoin(t, s, s, n)
		}
	}
	for _, n := range []int{-1, -2, -8, -full - 1, api.MinInt, api.MinInt + 1} {
		wantNoJoin(t, 0, 0, n)
		wantNoJoin(t, full, full, n)
	}
}

// TestJoinOfNone: with 0 it is x xor y; of a 0 ahead it is y, however far (P11.2).
func TestJoinOfNone(t *testing.T) {
	for _, x := range edgeSums() {
		for _, y := range edgeSums() {
			wantJoin(t, "none", x, y, 0, x^y)
		}
		for _, n := range []int{0, 1, 2, 4096, full, api.MaxInt} {
			wantJoin(t, "0 ahead", 0, x, n, x)
		}
	}
}

// TestJoinNear: few bytes, turn by turn (P11.2).
func TestJoinNear(t *testing.T) {
	d := dice(3)
	for n := range 100 {
		for _, x := range edgeSums() {
			y := d.sum()
			wantJoin(t, "near", x, y, n, turnedEight(x, n)^y)
		}
	}
	for range 300 {
		x, y, n := d.sum(), d.sum(), d.below(10000)
		wantJoin(t, "any", x, y, n, turnedEight(x, n)^y)
	}
}

// TestJoinStepByStep: so far and then so far again is that far together, up to the greatest number: with what is near told turn by turn, all that is far is told, too (P11.2).
func TestJoinStepByStep(t *testing.T) {
	d := dice(4)
	far := 0
	for range 20000 {
		x, y, n := d.sum(), d.sum(), d.number()
		if d.below(10) == 0 {
			n = api.MaxInt - d.below(3)
		}
		m := d.number() % (n + 1)
		half, _ := sum.Join(x, 0, m)
		want, _ := sum.Join(half, y, n-m)
		wantJoin(t, "in two", x, y, n, want)
		if m > full && n-m > full {
			far++
		}
	}
	if far < 1000 {
		t.Error("too few:", far)
	}
}

// TestJoinRound: each number comes round to itself after 2^32 - 1 times, so that what is very far is as what is near (P11.2).
func TestJoinRound(t *testing.T) {
	for _, x := range edgeSums() {
		wantJoin(t, "round", x, 0, full, x)
		wantJoin(t, "round and on", x, 5, full+3, turnedEight(x, 3)^5)
		wantJoin(t, "many rounds", x, 0, full<<30, x)
		wantJoin(t, "many rounds and on", x, 1, full<<30+40, turnedEight(x, 40)^1)
		near, _ := sum.Join(x, 0, 1<<31-1)
		wantJoin(t, "as far as can be", x, 0, api.MaxInt, near)
		wantJoin(t, "one more than half", near, 0, 1<<31, x)
	}
}

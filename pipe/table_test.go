package pipe

import (
	"cmp"
	"math/bits"
	"testing"
)

// deep is how many nodes stand one below the other at most.
func (n *node[K, V]) deep() int {
	if n == nil {
		return 0
	}
	return 1 + max(n.left.deep(), n.right.deep())
}

// rows are the numbers below n in orders in which keys may come.
func rows(n int) [][]int {
	out := make([][]int, 4)
	for i := range n {
		out[0] = append(out[0], i)
		out[1] = append(out[1], n-1-i)
		out[2] = append(out[2], i*7919%n)
		out[3] = append(out[3], (i%2)*(n-1)+(1-2*(i%2))*(i/2))
	}
	return out
}

// TestTable: what was put at a key is found there, once, and no way down is long, in whatever order the keys come.
func TestTable(t *testing.T) {
	for _, n := range []int{0, 1, 2, 3, 10, 1000, 20000} {
		for _, row := range rows(n) {
			l := table[int, int]{order: cmp.Compare[int]}
			for _, key := range row {
				if l.find(key) != nil {
					t.Fatal(n, key, "is there")
				}
				at, there := l.at(key)
				if there || *at != 0 {
					t.Fatal(n, key, there, *at)
				}
				*at = key + 1
			}
			for _, key := range row {
				at, there := l.at(key)
				if !there || *at != key+1 || l.find(key) != at {
					t.Fatal(n, key, there, *at)
				}
			}
			if l.find(-1) != nil || l.find(n) != nil {
				t.Fatal(n, "has others")
			}
			if deep := l.root.deep(); deep > 2*bits.Len(uint(n)) {
				t.Fatal(n, deep, "one below the other")
			}
		}
	}
}

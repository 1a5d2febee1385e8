package sum_test

import (
	"bytes"
	"slices"
	"testing"

	"coffret/api"
	"coffret/sum"
)

// TestOneBehindAnother: the sum of two rows of bytes comes of theirs (P11.5).
func TestOneBehindAnother(t *testing.T) {
	d := dice(6)
	for i := range 20000 {
		most := 80
		if i%100 == 0 {
			most = 20000
		}
		a, b := d.bytes(most), d.bytes(most)
		want := sum.Sum(slices.Concat(a, b))
		wantMore(t, "more", sum.Sum(a), b, want)
		wantJoin(t, "joined", sum.Sum(a), sum.Sum(b), len(b), want)
	}
}

// TestThreeBehindOneAnother: in whichever way three rows are joined, it is the same sum (P11.5).
func TestThreeBehindOneAnother(t *testing.T) {
	d := dice(7)
	for range 3000 {
		a, b, c := d.bytes(50), d.bytes(50), d.bytes(50)
		want := sum.Sum(slices.Concat(a, b, c))
		x, y, z := sum.Sum(a), sum.Sum(b), sum.Sum(c)
		ahead, _ := sum.Join(x, y, len(b))
		wantJoin(t, "two ahead", ahead, z, len(c), want)
		behind, _ := sum.Join(y, z, len(c))
		wantJoin(t, "two behind", x, behind, len(b)+len(c), want)
	}
}

// TestEverySplit: some bytes, parted at each place, a page's as well (P11.5).
func TestEverySplit(t *testing.T) {
	for _, all := range [][]byte{[]byte("123456789"), make([]byte, 300), bytes.Repeat([]byte("page"), api.PageSize/4)} {
		want := sum.Sum(all)
		for at := range len(all) + 1 {
			wantMore(t, "more", sum.Sum(all[:at]), all[at:], want)
			wantJoin(t, "joined", sum.Sum(all[:at]), sum.Sum(all[at:]), len(all)-at, want)
		}
	}
}

// changed is b with what is told turned in it, from a place on.
func changed(b []byte, at int, by ...byte) []byte {
	b = slices.Clone(b)
	for i, c := range by {
		b[at+i] ^= c
	}
	return b
}

func wantUnlike(t *testing.T, b []byte, at int, by ...byte) {
	t.Helper()
	if sum.Sum(b) == sum.Sum(changed(b, at, by...)) {
		t.Errorf("%d bytes, other by %v from %d on: the same sum", len(b), by, at)
	}
}

// TestOtherBytes: one byte that is another one, whichever; two beside each other; three or four of them, any (P11.6).
func TestOtherBytes(t *testing.T) {
	d := dice(8)
	for _, b := range [][]byte{make([]byte, 4), []byte("123456789"), bytes.Repeat([]byte{255}, 40)} {
		for at := range b {
			for c := 1; c < 256; c++ {
				wantUnlike(t, b, at, byte(c))
			}
		}
		for c := 1; c < 1<<16; c++ {
			wantUnlike(t, b, d.below(len(b)-1), byte(c), byte(c>>8))
		}
	}
	for range 20000 {
		b := append(d.bytes(100), 1, 2, 3, 4)
		by := make([]byte, 1+d.below(4))
		for i := range by {
			by[i] = byte(d.below(256))
		}
		by[d.below(len(by))] |= 1 << d.below(8)
		wantUnlike(t, b, d.below(len(b)-len(by)+1), by...)
	}
}

// TestAllOtherBytes: what a change of a bit does to the sum, xor what a change of another one does, is what both do; and no bit of four neighbouring bytes does what some others of them do: so no change of them does nothing (P11.6).
func TestAllOtherBytes(t *testing.T) {
	d := dice(9)
	for range 300 {
		b := append(d.bytes(2*api.PageSize), 1, 2, 3, 4)
		at := d.below(len(b) - 3)
		s := sum.Sum(b)
		var found [32]int // by its highest bit: what some changes do
		for bit := range 32 {
			one := []byte{0, 0, 0, 0}
			one[bit/8] = 1 << (bit % 8)
			does := s ^ sum.Sum(changed(b, at, one...))
			other := []byte{byte(d.below(256)), byte(d.below(256)), byte(d.below(256)), byte(d.below(256))}
			both := changed(one, 0, other...)
			if s^sum.Sum(changed(b, at, both...)) != does^s^sum.Sum(changed(b, at, other...)) {
				t.Errorf("both do not what each does: %v, %v", one, other)
			}
			for i := 31; i >= 0; i-- {
				if does>>i&1 == 1 && found[i] != 0 {
					does ^= found[i]
				} else if does>>i&1 == 1 {
					found[i] = does
					break
				}
			}
			if does == 0 {
				t.Errorf("bit %d does what others do, at %d of %d", bit, at, len(b))
			}
		}
	}
}

// TestThereAndBack: Read takes what Number writes, wherever it stands (P11.7).
func TestThereAndBack(t *testing.T) {
	d := dice(10)
	for range 20000 {
		n, size := d.number(), 1+d.below(8)
		b, e := sum.Number(n, size)
		if e != api.OK {
			n = n % 256
			if b, e = sum.Number(n, size); e != api.OK {
				t.Fatal(n, size, e)
			}
		}
		if len(b) != size {
			t.Errorf("Number(%d, %d): %v", n, size, b)
		}
		wantRead(t, b, 0, size, n)
		ahead := d.bytes(20)
		wantRead(t, slices.Concat(ahead, b, d.bytes(20)), len(ahead), size, n)
	}
}

// TestBackAndThere: Number of what Read tells are the bytes that it read (P11.7).
func TestBackAndThere(t *testing.T) {
	d := dice(11)
	read, not := 0, 0
	for range 20000 {
		b := append(d.bytes(20), byte(d.below(256)))
		at, size := d.below(len(b)), 1+d.below(8)
		n, e := sum.Read(b, at, size)
		if e != api.OK {
			not++
			continue
		}
		read++
		wantNumber(t, n, size, b[at:at+size]...)
	}
	if read < 5000 || not < 1000 {
		t.Errorf("too few: %d, %d", read, not)
	}
}

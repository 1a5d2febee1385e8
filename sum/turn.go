package sum

import "math/bits"

// turnedFour are the numbers 0 to 15, each turned four times.
var turnedFour = [16]uint32{
	0, 498536548, 997073096, 651767980,
	1994146192, 1802195444, 1303535960, 1342533948,
	3988292384, 4027552580, 3604390888, 3412177804,
	2607071920, 2262029012, 2685067896, 3183342108,
}

// turnedEight is a number, turned eight times. What its four lowest bits come to hangs on them alone; the others only move down meanwhile.
func turnedEight(n uint32) uint32 {
	for range 2 {
		n = n>>4 ^ turnedFour[n&15]
	}
	return n
}

// turns are what some turns make of each bit, the lowest first. A turn of a xor b is a's turn xor b's, so that they tell what becomes of any number.
type turns [32]uint32

// eightTurns are what one byte does to the sum ahead of it.
func eightTurns() turns {
	var t turns
	for i := range t {
		t[i] = turnedEight(1 << i)
	}
	return t
}

// of is what the turns make of a number.
func (t turns) of(n uint32) uint32 {
	var out uint32
	for ; n != 0; n &= n - 1 {
		out ^= t[bits.TrailingZeros32(n)]
	}
	return out
}

// doubled are twice as many turns.
func doubled(t turns) turns {
	var out turns
	for i, n := range t {
		out[i] = t.of(n)
	}
	return out
}

// past is a number, turned eight times n times. It takes as many rounds as n has bits, for n may be as great as a number can be.
func past(x uint32, n int) uint32 {
	for t := eightTurns(); n > 0; n >>= 1 {
		if n&1 == 1 {
			x = t.of(x)
		}
		t = doubled(t)
	}
	return x
}

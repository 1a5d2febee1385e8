package keyenc_test

import (
	"bytes"
	"cmp"
	"testing"

	"coffret/api"
	"coffret/keyenc"
	"coffret/value"
)

// TestOrderOfValues: keys stand as their values do, and turned round, if they fall (P3.5).
func TestOrderOfValues(t *testing.T) {
	l := rising()
	for i, a := range l {
		for j, b := range l {
			want := cmp.Compare(i, j)
			if value.Compare(a, b) != want {
				t.Fatalf("%v and %v: not in order", a, b)
			}
			if got := bytes.Compare(keyOf(t, row(a), up), keyOf(t, row(b), up)); got != want {
				t.Errorf("%v and %v: %d, want %d", a, b, got, want)
			}
			if got := bytes.Compare(keyOf(t, row(a), down), keyOf(t, row(b), down)); got != -want {
				t.Errorf("%v and %v, falling: %d, want %d", a, b, got, -want)
			}
		}
	}
}

// TestOrderOfPairs: the first two values that are unlike decide (P3.5).
func TestOrderOfPairs(t *testing.T) {
	few := []api.Value{least(), num(-1), num(1), txt(""), txt("\x00"), txt("a"), txt("a\x00"), doc(), doc(of("a", null())), list(), list(list()), raw("\xff"), most()}
	var rows [][]api.Value
	for _, a := range few {
		for _, b := range few {
			rows = append(rows, row(a, b))
		}
	}
	for _, desc := range ways(2) {
		for _, a := range rows {
			for _, b := range rows {
				wantStand(t, a, b, desc)
			}
		}
	}
}

// wantStand tells whether two keys stand to one another as P3.5 says, and neither begins with the other (P3.6).
func wantStand(t *testing.T, a, b []api.Value, desc []bool) {
	t.Helper()
	x, y := keyOf(t, a, desc), keyOf(t, b, desc)
	want := stand(a, b, desc)
	if got := bytes.Compare(x, y); got != want {
		t.Errorf("%v and %v, %v: %d, want %d", a, b, desc, got, want)
	}
	if want != 0 && (bytes.HasPrefix(x, y) || bytes.HasPrefix(y, x)) {
		t.Errorf("%v and %v, %v: %s and %s", a, b, desc, short(x), short(y))
	}
}

// TestOrderOfMany is P3.5 and P3.6 of rows of all lengths and shapes.
func TestOrderOfMany(t *testing.T) {
	d := dice(4)
	signs := map[int]int{}
	for range 20000 {
		a, desc := d.row()
		b := append(row(), a...)
		for range 1 + d.below(2) {
			b[d.below(len(b))] = d.any(2)
		}
		wantStand(t, a, b, desc)
		signs[stand(a, b, desc)]++
	}
	if signs[-1] < 1000 || signs[0] < 100 || signs[1] < 1000 {
		t.Error("the rows are too much alike: ", signs)
	}
}

// TestThereAndBack: Read of Key is the row; Key of that is the key (P3.6).
func TestThereAndBack(t *testing.T) {
	d := dice(5)
	for range 10000 {
		l, desc := d.row()
		b := keyOf(t, l, desc)
		got, f := keyenc.Read(b, desc)
		if f != (api.Fault{}) || !sameRows(got, l) {
			t.Fatalf("Read(%s, %v): %v %v, want %v", short(b), desc, got, f, l)
		}
		wantBytes(t, "Key of Read", keyOf(t, got, desc), b)
	}
	for _, v := range rising() {
		for _, desc := range ways(1) {
			wantRow(t, "one", keyOf(t, row(v), desc), desc, row(v))
		}
	}
}

// TestNoBeginnings: no key is a beginning of another one (P3.6).
func TestNoBeginnings(t *testing.T) {
	d := dice(6)
	for range 1000 {
		l, desc := d.row()
		b := keyOf(t, l, desc)
		for n := range len(b) {
			wantFault(t, "a beginning", b[:n], desc, api.ErrKeyForm)
		}
		for _, c := range []byte{0, 1, 2, 97, 253, 254, 255} {
			wantFault(t, "more", append(bytes.Clone(b), c), desc, api.ErrKeyForm)
		}
	}
}

// TestAfterOfKeys: the keys from a row's beginning on and ahead of After are those of the rows that begin so (P3.7).
func TestAfterOfKeys(t *testing.T) {
	few := []api.Value{least(), null(), num(-1), num(0), num(1), txt("a"), txt("a\x00"), txt("aa"), list(), list(null()), flag(1), most()}
	for _, desc := range ways(2) {
		for _, first := range few {
			from := keyOf(t, row(first), desc[:1])
			to := keyenc.After(from)
			for _, a := range few {
				for _, b := range few {
					key := keyOf(t, row(a, b), desc)
					in := bytes.Compare(from, key) <= 0 && bytes.Compare(key, to) < 0
					if in != same(a, first) {
						t.Errorf("%v, %v: from %v on: %v", row(a, b), desc, first, in)
					}
				}
			}
		}
	}
}

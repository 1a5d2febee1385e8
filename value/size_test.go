package value_test

import (
	"strconv"
	"strings"
	"testing"

	"coffret/api"
	"coffret/value"
)

// TestSize holds each row of the table of kinds (P1.1).
func TestSize(t *testing.T) {
	for i, x := range []struct {
		v    api.Value
		want int
	}{
		{api.Value{Kind: api.KindMin}, 0},
		{null(), 0},
		{api.Value{Kind: api.KindMax}, 0},
		{num(5), 8},
		{num(api.MinInt), 8},
		{date(0), 8},
		{txt(""), 5},
		{txt("ab"), 7},
		{txt("\u00e9"), 7},
		{raw(""), 5},
		{raw("\xff\x00\x01"), 8},
		{id("123456789012"), 12},
		{flag(0), 1},
		{flag(1), 1},
		{doc(), 5},
		{doc(of("a", num(5))), 16},
		{doc(of("name", flag(1)), of("n", null())), 15},
		{doc(of("\u00e9", doc())), 14},
		{list(), 5},
		{list(num(5), txt("ab")), 26},
		{list(list(null()), doc(of("abc", id("123456789012")))), 5 + 3 + 8 + 3 + 22},
	} {
		if got := value.Size(x.v); got != x.want {
			t.Errorf("row %d: Size(%v) is %d, not %d", i, x.v, got, x.want)
		}
	}
}

// TestSizeOfPlaces: an element counts as many bytes as its place has digits.
func TestSizeOfPlaces(t *testing.T) {
	for _, many := range []int{0, 1, 9, 10, 11, 12, 99, 100, 101, 102, 999, 1000, 1001, 1002} {
		want := 5
		for i := range many {
			want += 2 + len(strconv.Itoa(i))
		}
		if got := value.Size(nulls(many)); got != want {
			t.Errorf("Size of %d nulls is %d, not %d", many, got, want)
		}
	}
}

// TestSizeOfOtherKinds: what has no row of the table has no bytes; what a kind does not use is not counted.
func TestSizeOfOtherKinds(t *testing.T) {
	for _, kind := range []int{0, -1, 12, 100, api.MinInt, api.MaxInt} {
		v := api.Value{Kind: kind, Int: 1, Text: "abc", List: nulls(3).List, Doc: named(3).Doc}
		if got := value.Size(v); got != 0 {
			t.Errorf("Size of kind %d is %d", kind, got)
		}
		if got := value.Size(list(v, num(1))); got != 5+3+3+8 {
			t.Errorf("Size of a list with kind %d is %d", kind, got)
		}
	}
	for i, x := range []struct {
		v    api.Value
		want int
	}{
		{api.Value{Kind: api.KindInt, Text: "abc", List: nulls(1).List}, 8},
		{api.Value{Kind: api.KindId, Text: "abc"}, 12},
		{api.Value{Kind: api.KindBool, Int: 7}, 1},
		{api.Value{Kind: api.KindList, Doc: named(1).Doc, Text: "abc"}, 5},
		{api.Value{Kind: api.KindDoc, List: nulls(1).List, Int: 3}, 5},
	} {
		if got := value.Size(x.v); got != x.want {
			t.Errorf("row %d: Size is %d, not %d", i, got, x.want)
		}
	}
}

// TestSizeAtLimit: MaxDoc is told, whatever is above it is MaxDoc and 1.
func TestSizeAtLimit(t *testing.T) {
	fields := func(last int) api.Value {
		half := strings.Repeat("x", 32000)
		return doc(of("a", txt(half)), of("b", raw(half)), of("c", txt(strings.Repeat("x", last))))
	}
	const rest = api.MaxDoc - 5 - 2*(3+5+32000) - (3 + 5)
	for i, x := range []struct {
		v    api.Value
		want int
	}{
		{txt(strings.Repeat("x", api.MaxDoc-6)), api.MaxDoc - 1},
		{txt(strings.Repeat("x", api.MaxDoc-5)), api.MaxDoc},
		{txt(strings.Repeat("x", api.MaxDoc-4)), api.MaxDoc + 1},
		{txt(strings.Repeat("x", api.MaxDoc-3)), api.MaxDoc + 1},
		{raw(strings.Repeat("x", 1<<20)), api.MaxDoc + 1},
		{fields(rest - 1), api.MaxDoc - 1},
		{fields(rest), api.MaxDoc},
		{fields(rest + 1), api.MaxDoc + 1},
		{fields(rest + 2), api.MaxDoc + 1},
		{fields(api.MaxDoc), api.MaxDoc + 1},
		{list(fields(api.MaxDoc), fields(api.MaxDoc)), api.MaxDoc + 1},
		{doc(of(strings.Repeat("n", api.MaxDoc-7), null())), api.MaxDoc},
		{doc(of(strings.Repeat("n", api.MaxDoc-6), null())), api.MaxDoc + 1},
		{doc(of(strings.Repeat("n", api.MaxDoc-6), null()), of("b", null())), api.MaxDoc + 1},
		{doc(of(strings.Repeat("n", api.MaxDoc-7), null()), of("b", null())), api.MaxDoc + 1},
		{list(txt(strings.Repeat("x", api.MaxDoc-5-3-5)), null()), api.MaxDoc + 1},
		{nulls(1 << 17), api.MaxDoc + 1},
		{named(1 << 15), api.MaxDoc + 1},
		{nest(null(), 1<<16-1, false), api.MaxDoc + 1},
		{nest(null(), 1<<16-1, true), api.MaxDoc + 1},
	} {
		if got := value.Size(x.v); got != x.want {
			t.Errorf("row %d: Size is %d, not %d", i, got, x.want)
		}
	}
}

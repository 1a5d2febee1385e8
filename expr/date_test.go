package expr_test

import (
	"testing"
	"time"

	"coffret/api"
	"coffret/expr"
)

// dateNames are the operators that tell a date's parts.
func dateNames() []string {
	return []string{"$year", "$month", "$day", "$hour", "$minute", "$second", "$milli", "$weekday"}
}

// dateParts are those parts by the library's calendar.
func dateParts(ms int) []int {
	d := time.UnixMilli(int64(ms)).UTC()
	return []int{d.Year(), int(d.Month()), d.Day(), d.Hour(), d.Minute(), d.Second(), d.Nanosecond() / 1e6, int(d.Weekday())}
}

// dateExpr tells all parts of what it is worked out of.
func dateExpr(t *testing.T) *expr.Expr {
	t.Helper()
	v := list()
	for _, name := range dateNames() {
		v.List = append(v.List, op(name, txt("$$ROOT")))
	}
	x, e := expr.Parse(v)
	if e != api.OK {
		t.Fatal(e)
	}
	return x
}

func wantDate(t *testing.T, x *expr.Expr, ms int, want []int) {
	t.Helper()
	got, e := x.Eval(date(ms))
	if e != api.OK || len(got.List) != len(want) {
		t.Fatalf("%d: %v", ms, e)
	}
	for i := range want {
		if !same(got.List[i], num(want[i])) {
			t.Fatalf("%s of %d: %v, want %d", dateNames()[i], ms, got.List[i], want[i])
		}
	}
}

// TestDatesKnown: some dates as one looks them up (P5.3).
func TestDatesKnown(t *testing.T) {
	x := dateExpr(t)
	for ms, want := range map[int][]int{
		0:                  {1970, 1, 1, 0, 0, 0, 0, 4},
		-1:                 {1969, 12, 31, 23, 59, 59, 999, 3},
		951782400000:       {2000, 2, 29, 0, 0, 0, 0, 2},
		4107456000000:      {2100, 2, 28, 0, 0, 0, 0, 0},
		4107542400000:      {2100, 3, 1, 0, 0, 0, 0, 1},
		-2203977600000:     {1900, 2, 28, 0, 0, 0, 0, 3},
		-2203891200000:     {1900, 3, 1, 0, 0, 0, 0, 4},
		1700000000123:      {2023, 11, 14, 22, 13, 20, 123, 2},
		-62135596800000:    {1, 1, 1, 0, 0, 0, 0, 1},
		-62135596800001:    {0, 12, 31, 23, 59, 59, 999, 0},
		-62162121600000:    {0, 2, 29, 0, 0, 0, 0, 2},
		-62167219200000:    {0, 1, 1, 0, 0, 0, 0, 6},
		-62167219200001:    {-1, 12, 31, 23, 59, 59, 999, 5},
		253402300799999:    {9999, 12, 31, 23, 59, 59, 999, 5},
		api.MaxInt:         {292278994, 8, 17, 7, 12, 55, 807, 0},
		api.MinInt:         {-292275055, 5, 16, 16, 47, 4, 192, 0},
		13574563200000:     {2400, 2, 29, 0, 0, 0, 0, 2},
		13574649600000 - 1: {2400, 2, 29, 23, 59, 59, 999, 2},
	} {
		wantDate(t, x, ms, want)
		wantDate(t, x, ms, dateParts(ms))
	}
}

// TestDatesAll: the days of more than eight hundred years, the ends of all months ahead and behind, and dates of all sizes (P5.3).
func TestDatesAll(t *testing.T) {
	const day = 24 * 60 * 60 * 1000
	x := dateExpr(t)
	for n := -146097; n < 146097; n++ {
		wantDate(t, x, n*day, dateParts(n*day))
	}
	for year := -4001; year < 4001; year++ {
		for month := range 12 {
			ms := int(time.Date(year, time.Month(month+1), 1, 0, 0, 0, 0, time.UTC).UnixMilli())
			wantDate(t, x, ms-1, dateParts(ms-1))
			wantDate(t, x, ms, dateParts(ms))
		}
	}
	d := dice(5)
	for range 20000 {
		ms := (d.below(1<<30)<<33 + d.below(1<<30)<<3) >> d.below(60)
		wantDate(t, x, ms, dateParts(ms))
		wantDate(t, x, -ms, dateParts(-ms))
		wantDate(t, x, api.MaxInt-ms, dateParts(api.MaxInt-ms))
		wantDate(t, x, api.MinInt+ms, dateParts(api.MinInt+ms))
	}
}

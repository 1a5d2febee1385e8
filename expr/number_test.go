package expr_test

import (
	"testing"

	"coffret/api"
)

// TestNumbers: sums, products and what is left (P5.3).
func TestNumbers(t *testing.T) {
	wantRows(t, sample(), []row{
		{`{"$add": 5}`, `5`}, {`{"$add": [5]}`, `5`}, {`{"$add": [1, 2, 3, -10]}`, `-4`}, {`{"$add": "$t"}`, `{"@date": 86400000}`}, {`{"$add": [1, "$t", 2]}`, `{"@date": 86400003}`}, {`{"$add": [-86400001, "$t"]}`, `{"@date": -1}`}, {`{"$add": "$l"}`, `ErrExprKind`}, {`{"$add": ["$t", "$t"]}`, `ErrExprKind`}, {`{"$add": ["$t", 1, "$t"]}`, `ErrExprKind`}, {`{"$add": [true, 1]}`, `ErrExprKind`},
		{`{"$add": [9223372036854775806, 1]}`, `9223372036854775807`}, {`{"$add": [9223372036854775807, 1]}`, `ErrExprOver`}, {`{"$add": [9223372036854775807, 1, -1]}`, `ErrExprOver`}, {`{"$add": [9223372036854775807, -1, 1]}`, `9223372036854775807`}, {`{"$add": [-9223372036854775807, -1]}`, `-9223372036854775808`}, {`{"$add": [-9223372036854775808, -1]}`, `ErrExprOver`}, {`{"$add": [-9223372036854775808, 9223372036854775807]}`, `-1`}, {`{"$add": [9223372036854775807, 0]}`, `9223372036854775807`}, {`{"$add": [-9223372036854775808, 0]}`, `-9223372036854775808`}, {`{"$add": [-9223372036854775808, -9223372036854775808]}`, `ErrExprOver`}, {`{"$add": [9223372036854775807, "$t"]}`, `ErrExprOver`}, {`{"$add": ["$t", 9223372036854775807, -86400000]}`, `ErrExprOver`}, {`{"$add": ["$t", -86400000, 9223372036854775807]}`, `{"@date": 9223372036854775807}`},
		{`{"$multiply": 7}`, `7`}, {`{"$multiply": [2, -3, 4]}`, `-24`}, {`{"$multiply": [0, 9223372036854775807, 2]}`, `0`}, {`{"$multiply": [9223372036854775807, 2, 0]}`, `ErrExprOver`}, {`{"$multiply": [9223372036854775807, -1]}`, `-9223372036854775807`}, {`{"$multiply": [-9223372036854775808, 1]}`, `-9223372036854775808`}, {`{"$multiply": [-9223372036854775808, -1]}`, `ErrExprOver`}, {`{"$multiply": [-1, -9223372036854775808]}`, `ErrExprOver`}, {`{"$multiply": [-9223372036854775808, 0]}`, `0`}, {`{"$multiply": [4294967296, 2147483648]}`, `ErrExprOver`}, {`{"$multiply": [4294967296, -2147483648]}`, `-9223372036854775808`}, {`{"$multiply": [4294967296, 4294967296]}`, `ErrExprOver`}, {`{"$multiply": [3037000500, 3037000500]}`, `ErrExprOver`}, {`{"$multiply": [3037000499, 3037000499]}`, `9223372030926249001`},
		{`{"$subtract": [5, 7]}`, `-2`}, {`{"$subtract": ["$t", "$t"]}`, `0`}, {`{"$subtract": [{"@date": 5}, "$t"]}`, `-86399995`}, {`{"$subtract": ["$t", 1]}`, `{"@date": 86399999}`}, {`{"$subtract": [1, "$t"]}`, `ErrExprKind`}, {`{"$subtract": [-9223372036854775808, 1]}`, `ErrExprOver`}, {`{"$subtract": [0, -9223372036854775808]}`, `ErrExprOver`}, {`{"$subtract": [-1, -9223372036854775808]}`, `9223372036854775807`}, {`{"$subtract": [9223372036854775807, -1]}`, `ErrExprOver`}, {`{"$subtract": [-9223372036854775808, 0]}`, `-9223372036854775808`}, {`{"$subtract": [{"@date": -9223372036854775808}, {"@date": 1}]}`, `ErrExprOver`}, {`{"$subtract": [{"@date": -9223372036854775808}, 1]}`, `ErrExprOver`},
		{`{"$divide": [7, 2]}`, `3`}, {`{"$divide": [-7, 2]}`, `-3`}, {`{"$divide": [7, -2]}`, `-3`}, {`{"$divide": [-7, -2]}`, `3`}, {`{"$divide": [1, 0]}`, `ErrExprZero`}, {`{"$divide": [0, 0]}`, `ErrExprZero`}, {`{"$divide": [-9223372036854775808, -1]}`, `ErrExprOver`}, {`{"$divide": [-9223372036854775808, 1]}`, `-9223372036854775808`}, {`{"$divide": [9223372036854775807, -1]}`, `-9223372036854775807`}, {`{"$divide": [-9223372036854775808, 0]}`, `ErrExprZero`},
		{`{"$mod": [7, 2]}`, `1`}, {`{"$mod": [-7, 2]}`, `-1`}, {`{"$mod": [7, -2]}`, `1`}, {`{"$mod": [-7, -2]}`, `-1`}, {`{"$mod": [-8, 2]}`, `0`}, {`{"$mod": [1, 0]}`, `ErrExprZero`}, {`{"$mod": [-9223372036854775808, -1]}`, `0`}, {`{"$mod": [-9223372036854775808, 9223372036854775807]}`, `-1`},
		{`{"$abs": -5}`, `5`}, {`{"$abs": [5]}`, `5`}, {`{"$abs": 0}`, `0`}, {`{"$abs": -9223372036854775807}`, `9223372036854775807`}, {`{"$abs": -9223372036854775808}`, `ErrExprOver`},
	})
}

// edges are numbers at which sums and products leave 64 bits, or nearly.
func edges() []int {
	return []int{api.MinInt, api.MinInt + 1, -1 << 32, -1 << 31, -3037000500, -3, -2, -1, 0, 1, 2, 3, 3037000499, 3037000500, 1 << 31, 1 << 32, api.MaxInt / 2, api.MaxInt - 1, api.MaxInt}
}

// TestNumbersBig: as if numbers had no end (P5.3).
func TestNumbersBig(t *testing.T) {
	for _, a := range edges() {
		for _, b := range edges() {
			for _, name := range []string{"$add", "$multiply", "$subtract", "$divide", "$mod"} {
				v := call(name, num(a), num(b))
				want, e := modelOf(v, doc())
				wantValue(t, v, doc(), want, e)
			}
			for _, c := range edges() {
				for _, name := range []string{"$add", "$multiply"} {
					v := call(name, num(a), num(b), num(c))
					want, e := modelOf(v, doc())
					wantValue(t, v, doc(), want, e)
				}
			}
		}
	}
}

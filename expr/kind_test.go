package expr_test

import (
	"strings"
	"testing"

	"coffret/api"
)

// TestType: a word for each kind (P5.3).
func TestType(t *testing.T) {
	words := []string{"min", "null", "int", "text", "doc", "list", "bytes", "id", "bool", "date", "max"}
	for i, v := range kinds() {
		wantValue(t, op("$type", txt("$x")), doc(of("x", v)), txt(words[i]), api.OK)
		wantValue(t, op("$type", op("$literal", v)), doc(), txt(words[i]), api.OK)
	}
	for _, v := range []api.Value{{}, {Kind: 12}, {Kind: -1}, {Kind: api.MinInt}, {Kind: api.MaxInt}, {Int: 1}} {
		wantValue(t, op("$type", txt("$$ROOT")), v, txt("missing"), api.OK)
	}
	wantRows(t, sample(), []row{{`{"$type": "$z"}`, `"missing"`}, {`{"$type": ["$n"]}`, `"null"`}, {`{"$type": {"$at": [[], 0]}}`, `"missing"`}, {`{"$type": {"$abs": "x"}}`, `ErrExprKind`}})
}

// TestConversions: `$toInt`, `$toText`, `$toDate` (P5.3).
func TestConversions(t *testing.T) {
	wantRows(t, sample(), []row{
		{`{"$toInt": -7}`, `-7`}, {`{"$toInt": "$t"}`, `86400000`}, {`{"$toInt": true}`, `1`}, {`{"$toInt": [false]}`, `0`}, {`{"$toInt": "7"}`, `7`}, {`{"$toInt": "-7"}`, `-7`}, {`{"$toInt": "007"}`, `7`}, {`{"$toInt": "-007"}`, `-7`}, {`{"$toInt": "0"}`, `0`}, {`{"$toInt": "-0"}`, `0`},
		{`{"$toInt": "9223372036854775807"}`, `9223372036854775807`}, {`{"$toInt": "9223372036854775808"}`, `ErrExprOver`}, {`{"$toInt": "-9223372036854775808"}`, `-9223372036854775808`}, {`{"$toInt": "-9223372036854775809"}`, `ErrExprOver`}, {`{"$toInt": "00000000000000000000000009223372036854775807"}`, `9223372036854775807`}, {`{"$toInt": "99999999999999999999"}`, `ErrExprOver`}, {`{"$toInt": "18446744073709551617"}`, `ErrExprOver`},
		{`{"$toInt": ""}`, `ErrExprKind`}, {`{"$toInt": "-"}`, `ErrExprKind`}, {`{"$toInt": "--1"}`, `ErrExprKind`}, {`{"$toInt": "+1"}`, `ErrExprKind`}, {`{"$toInt": " 1"}`, `ErrExprKind`}, {`{"$toInt": "1 "}`, `ErrExprKind`}, {`{"$toInt": "1x"}`, `ErrExprKind`}, {`{"$toInt": "0x1"}`, `ErrExprKind`}, {`{"$toInt": "1_0"}`, `ErrExprKind`}, {`{"$toInt": "1-"}`, `ErrExprKind`}, {`{"$toInt": "1.0"}`, `ErrExprKind`}, {`{"$toInt": "١"}`, `ErrExprKind`}, {`{"$toInt": "1-1"}`, `ErrExprKind`}, {`{"$toInt": "99999999999999999999x"}`, `ErrExprKind`}, {`{"$toInt": [[]]}`, `ErrExprKind`},
		{`{"$toText": "a"}`, `"a"`}, {`{"$toText": 0}`, `"0"`}, {`{"$toText": -12}`, `"-12"`}, {`{"$toText": -9223372036854775808}`, `"-9223372036854775808"`}, {`{"$toText": 9223372036854775807}`, `"9223372036854775807"`}, {`{"$toText": true}`, `"true"`}, {`{"$toText": false}`, `"false"`}, {`{"$toText": "$t"}`, `ErrExprKind`}, {`{"$toText": [[]]}`, `ErrExprKind`},
		{`{"$toDate": 5}`, `{"@date": 5}`}, {`{"$toDate": "$t"}`, `{"@date": 86400000}`}, {`{"$toDate": -9223372036854775808}`, `{"@date": -9223372036854775808}`}, {`{"$toDate": true}`, `ErrExprKind`}, {`{"$toDate": "5"}`, `ErrExprKind`},
	})
	wantValue(t, op("$toInt", txt(strings.Repeat("0", 60000)+"5")), doc(), num(5), api.OK)
	wantValue(t, op("$toInt", txt("-"+strings.Repeat("9", 60000))), doc(), api.Value{}, api.ErrExprOver)
}

package keyenc_test

import (
	"slices"
	"strings"
	"testing"

	"coffret/api"
)

// TestKeyExamples: the chapter's table.
func TestKeyExamples(t *testing.T) {
	wantBytes(t, "5", keyOf(t, row(num(5)), up), []byte{3, 128, 0, 0, 0, 0, 0, 0, 5})
	wantBytes(t, "-1, falling", keyOf(t, row(num(-1)), down), []byte{252, 128, 0, 0, 0, 0, 0, 0, 0})
	wantBytes(t, "two", keyOf(t, row(txt("a"), null()), []bool{false, false}), []byte{4, 97, 0, 0, 2})
	wantBytes(t, "bytes", keyOf(t, row(raw("\x00\x01")), up), []byte{7, 0, 255, 1, 0, 0})
	wantBytes(t, "a list", keyOf(t, row(list(num(5))), up), []byte{6, 1, 3, 128, 0, 0, 0, 0, 0, 0, 5, 0})
	wantBytes(t, "a document", keyOf(t, row(doc(of("a", flag(1)))), up), []byte{5, 1, 97, 0, 0, 9, 1, 0})
}

// TestKeyOfEachKind: a value's bytes, and turned, if it falls (P3.1).
func TestKeyOfEachKind(t *testing.T) {
	for _, x := range keyed() {
		wantBytes(t, "rising", keyOf(t, row(x.v), up), x.want)
		wantBytes(t, "falling", keyOf(t, row(x.v), down), turned(x.want))
	}
}

// TestKeyOfRows: values' bytes one behind another, of each just those turned that fall (P3.1).
func TestKeyOfRows(t *testing.T) {
	all := keyed()
	for many := 1; many <= api.MaxFields; many++ {
		for first := range len(all) {
			for _, desc := range ways(many) {
				l, want := []api.Value{}, []byte{}
				for i, falls := range desc {
					x := all[(first+7*i)%len(all)]
					l = append(l, x.v)
					if falls {
						want = append(want, turned(x.want)...)
					} else {
						want = append(want, x.want...)
					}
				}
				wantBytes(t, "a row", keyOf(t, l, desc), want)
			}
		}
	}
}

// TestKeyOfNoRow: ErrArg, whatever else is wrong (P3.1, W4).
func TestKeyOfNoRow(t *testing.T) {
	wrong, long := flag(2), txt(strings.Repeat("t", 2000))
	for what, x := range map[string]struct {
		l    []api.Value
		desc []bool
	}{
		"nothing":                 {nil, nil},
		"nothing, no nil":         {row(), []bool{}},
		"no values":               {nil, up},
		"no values, two desc":     {nil, []bool{true, false}},
		"no desc":                 {row(num(1)), nil},
		"one desc too many":       {row(num(1)), []bool{false, false}},
		"one desc too few":        {row(num(1), num(2)), up},
		"four and three":          {row(num(1), num(2), num(3), num(4)), []bool{false, false, false}},
		"four and five":           {row(num(1), num(2), num(3), num(4)), make([]bool, 5)},
		"five":                    {slices.Repeat(row(num(1)), 5), make([]bool, 5)},
		"five and four":           {slices.Repeat(row(num(1)), 5), make([]bool, 4)},
		"very many":               {slices.Repeat(row(num(1)), 70000), make([]bool, 70000)},
		"five, wrong ones":        {slices.Repeat(row(wrong), 5), make([]bool, 5)},
		"a wrong one and no desc": {row(wrong), nil},
		"a long one and no desc":  {row(long), nil},
		"five long ones":          {slices.Repeat(row(long), 5), make([]bool, 5)},
	} {
		wantError(t, what, x.l, x.desc, api.ErrArg)
	}
}

// TestKeyOfWrong: the error of the first value that is not right (P3.1).
func TestKeyOfWrong(t *testing.T) {
	long := txt(strings.Repeat("t", 2000))
	for what, x := range map[string]struct {
		l    []api.Value
		want api.Errno
	}{
		"missing":                  {row(api.Value{}), api.ErrValueKind},
		"an unknown kind":          {row(api.Value{Kind: 12}), api.ErrValueKind},
		"a kind below 0":           {row(api.Value{Kind: -1}), api.ErrValueKind},
		"a kind of nine bits":      {row(api.Value{Kind: 256 + api.KindNull}), api.ErrValueKind},
		"a bool of 2":              {row(flag(2)), api.ErrValueKind},
		"a bool below 0":           {row(flag(-1)), api.ErrValueKind},
		"an id of eleven":          {row(id("12345678901")), api.ErrValueKind},
		"an id of thirteen":        {row(id("1234567890123")), api.ErrValueKind},
		"a text of other bytes":    {row(txt("\xff")), api.ErrValueKind},
		"what is not used":         {row(api.Value{Kind: api.KindNull, Int: 1}), api.ErrValueKind},
		"a name of none":           {row(doc(of("", num(1)))), api.ErrValueName},
		"a name twice":             {row(doc(of("a", num(1)), of("a", num(1)))), api.ErrValueName},
		"a name with a byte 0":     {row(doc(of("a\x00", num(1)))), api.ErrValueName},
		"a long name":              {row(doc(of(strings.Repeat("n", api.MaxName+1), num(1)))), api.ErrValueName},
		"too deep":                 {row(nest(num(1), api.MaxDepth+1, false)), api.ErrValueDeep},
		"documents too deep":       {row(nest(num(1), api.MaxDepth+1, true)), api.ErrValueDeep},
		"very deep":                {row(nest(num(1), 1<<16-2, false)), api.ErrBig},
		"too big":                  {row(txt(strings.Repeat("t", api.MaxDoc-4))), api.ErrBig},
		"within a list":            {row(list(num(1), flag(2))), api.ErrValueKind},
		"the last one":             {row(num(1), num(2), num(3), flag(2)), api.ErrValueKind},
		"the first of two":         {row(num(1), doc(of("", num(1))), flag(2)), api.ErrValueName},
		"the first of two, turned": {row(num(1), flag(2), doc(of("", num(1)))), api.ErrValueKind},
		"behind one that is long":  {row(long, flag(2)), api.ErrValueKind},
		"ahead of a long one":      {row(nest(num(1), api.MaxDepth+1, false), long), api.ErrValueDeep},
		"big behind a wrong one":   {row(flag(2), txt(strings.Repeat("t", api.MaxDoc))), api.ErrValueKind},
	} {
		wantError(t, what, x.l, make([]bool, len(x.l)), x.want)
		wantError(t, what+", falling", x.l, slices.Repeat(down, len(x.l)), x.want)
	}
}

// TestKeyLimits: what has MaxKey bytes is fine, one more is ErrKeyLong (P3.1).
func TestKeyLimits(t *testing.T) {
	text := func(many int) api.Value { return txt(strings.Repeat("t", many)) }
	bare := slices.Repeat(row(null()), 10000)
	for what, x := range map[string]struct {
		fits, long []api.Value
	}{
		"a text":               {row(text(997)), row(text(998))},
		"bytes":                {row(raw(strings.Repeat("\xff", 997))), row(raw(strings.Repeat("\xff", 998)))},
		"bytes 0 count twice":  {row(txt("t" + strings.Repeat("\x00", 498))), row(txt(strings.Repeat("\x00", 499)))},
		"one more byte 0":      {row(raw(strings.Repeat("\x00", 498))), row(raw("tt" + strings.Repeat("\x00", 498)))},
		"two":                  {row(text(500), text(494)), row(text(500), text(495))},
		"four":                 {row(num(1), text(500), null(), text(484)), row(num(1), text(500), null(), text(485))},
		"the last one":         {row(num(1), num(1), flag(1), text(977)), row(num(1), num(1), text(978), flag(1))},
		"each fits":            {row(text(997)), row(text(997), null())},
		"a list":               {row(list(bare[:499]...)), row(list(bare[:500]...))},
		"a long list":          {row(list(bare[:499]...)), row(list(bare...))},
		"a list within":        {row(list(list(bare[:496]...), null())), row(list(list(bare[:497]...), null()))},
		"a document":           {row(doc(of("a", text(991)))), row(doc(of("a", text(992))))},
		"the most of a value":  {row(text(997)), row(text(api.MaxDoc - 5))},
		"four of the greatest": {row(text(997)), slices.Repeat(row(text(api.MaxDoc-5)), 4)},
	} {
		for _, falls := range []bool{false, true} {
			b := keyOf(t, x.fits, slices.Repeat([]bool{falls}, len(x.fits)))
			if len(b) < api.MaxKey-1 || len(b) > api.MaxKey {
				t.Errorf("%s: %d bytes", what, len(b))
			}
			wantError(t, what, x.long, slices.Repeat([]bool{falls}, len(x.long)), api.ErrKeyLong)
		}
	}
	for what, v := range map[string]api.Value{"lists": nest(num(1), api.MaxDepth, false), "documents": nest(list(), api.MaxDepth-1, true), "a name": doc(of(strings.Repeat("n", api.MaxName), num(1)))} {
		wantRow(t, what, keyOf(t, row(v), up), up, row(v))
	}
}

// TestKeyOfEmptyLists: a list of no elements is as none at all (W5).
func TestKeyOfEmptyLists(t *testing.T) {
	wantBytes(t, "a list", keyOf(t, row(api.Value{Kind: api.KindList, List: row(), Doc: []api.Field{}}), up), []byte{6, 0})
	wantBytes(t, "a document", keyOf(t, row(api.Value{Kind: api.KindDoc, List: row(), Doc: []api.Field{}}), up), []byte{5, 0})
	wantBytes(t, "a number", keyOf(t, row(api.Value{Kind: api.KindInt, List: row(), Doc: []api.Field{}}), down), []byte{252, 127, 255, 255, 255, 255, 255, 255, 255})
}

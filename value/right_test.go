package value_test

import (
	"strconv"
	"strings"
	"testing"

	"coffret/api"
	"coffret/value"
)

type rightRow struct {
	what string
	v    api.Value
	want api.Errno
}

func checkRight(t *testing.T, rows []rightRow) {
	t.Helper()
	for _, x := range rows {
		if got := value.Right(x.v); got != x.want {
			t.Errorf("%s: Right is %d, not %d", x.what, got, x.want)
		}
	}
}

// TestRightOfRight: what may be, may be within others, too (P1.2).
func TestRightOfRight(t *testing.T) {
	for i, v := range rising() {
		for _, x := range []api.Value{v, list(v), list(null(), v), doc(of("a", v)), doc(of("a", null()), of("b", v))} {
			if got := value.Right(x); got != api.OK {
				t.Errorf("value %d: Right(%v) is %d", i, x, got)
			}
		}
	}
}

// TestRightOfKinds: each kind's own, and nothing that it does not use.
func TestRightOfKinds(t *testing.T) {
	checkRight(t, []rightRow{
		{"missing", api.Value{}, api.ErrValueKind},
		{"kind -1", api.Value{Kind: -1}, api.ErrValueKind},
		{"kind 12", api.Value{Kind: 12}, api.ErrValueKind},
		{"the least kind", api.Value{Kind: api.MinInt}, api.ErrValueKind},
		{"the greatest kind", api.Value{Kind: api.MaxInt}, api.ErrValueKind},
		{"no UTF-8", txt("\xff"), api.ErrValueKind},
		{"a rune cut short", txt("a\xe2\x82"), api.ErrValueKind},
		{"half of a pair", txt("\xed\xa0\x80"), api.ErrValueKind},
		{"a rune written too long", txt("\xc0\x80"), api.ErrValueKind},
		{"a text with a byte 0", txt("a\x00b"), api.OK},
		{"a text of many bytes each", txt("\u20ac\U0001f600\ufffd"), api.OK},
		{"bytes that are no UTF-8", raw("\xff\xfe\x00"), api.OK},
		{"an id of none", id(""), api.ErrValueKind},
		{"an id of 11", id("12345678901"), api.ErrValueKind},
		{"an id of 12", id("\xff\x00\xff345678901"), api.OK},
		{"an id of 13", id("1234567890123"), api.ErrValueKind},
		{"a bool -1", flag(-1), api.ErrValueKind},
		{"a bool 2", flag(2), api.ErrValueKind},
		{"the greatest bool", flag(api.MaxInt), api.ErrValueKind},
		{"wrong in a list", list(num(1), flag(2)), api.ErrValueKind},
		{"wrong in a document", doc(of("a", num(1)), of("b", txt("\xff"))), api.ErrValueKind},
		{"missing in a list", list(api.Value{}), api.ErrValueKind},
		{"missing in a document", doc(of("a", api.Value{})), api.ErrValueKind},
		{"wrong far within", nest(id("x"), 19, true), api.ErrValueKind},
	})
	samples := []api.Value{{Kind: api.KindMin}, null(), num(1), txt("a"), doc(of("a", num(1))), list(num(1)), raw("a"), id("123456789012"), flag(1), date(1), {Kind: api.KindMax}}
	for _, v := range samples {
		empty := v
		if empty.List == nil {
			empty.List = []api.Value{}
		}
		if empty.Doc == nil {
			empty.Doc = make([]api.Field, 0, 3)
		}
		rows := []rightRow{{"without more", v, api.OK}, {"lists of none", empty, api.OK}}
		for what := range 5 {
			if x, more := strayed(v, what); more {
				rows = append(rows, rightRow{"kind " + strconv.Itoa(v.Kind) + " with stray part " + strconv.Itoa(what), x, api.ErrValueKind})
			}
		}
		checkRight(t, rows)
	}
}

// strayed is v with a part that its kind does not use; false, if it uses it.
func strayed(v api.Value, what int) (api.Value, bool) {
	number := v.Kind == api.KindInt || v.Kind == api.KindBool || v.Kind == api.KindDate
	text := v.Kind == api.KindText || v.Kind == api.KindBytes || v.Kind == api.KindId
	switch what {
	case 0:
		v.Int = 1
		return v, !number
	case 1:
		v.Int = -1
		return v, !number
	case 2:
		v.Text = "123456789012"
		return v, !text
	case 3:
		v.List = []api.Value{null()}
		return v, v.Kind != api.KindList
	}
	v.Doc = []api.Field{of("a", null())}
	return v, v.Kind != api.KindDoc
}

// TestRightOfNames: which names a field may have.
func TestRightOfNames(t *testing.T) {
	one := func(name string) api.Value { return doc(of(name, num(1))) }
	most := strings.Repeat("n", api.MaxName)
	checkRight(t, []rightRow{
		{"no name", one(""), api.ErrValueName},
		{"a byte 0", one("\x00"), api.ErrValueName},
		{"a byte 0 at the front", one("\x00a"), api.ErrValueName},
		{"a byte 0 at the end", one("a\x00"), api.ErrValueName},
		{"no UTF-8", one("a\xff"), api.ErrValueName},
		{"MaxName bytes", one(most), api.OK},
		{"one more", one(most + "n"), api.ErrValueName},
		{"MaxName bytes, fewer runes", one(strings.Repeat("\u00e9", api.MaxName/2)), api.OK},
		{"MaxName runes, more bytes", one(strings.Repeat("\u00e9", api.MaxName)), api.ErrValueName},
		{"any other byte", one("$a.b \x01\x7f"), api.OK},
		{"a number", one("0"), api.OK},
		{"twice", doc(of("a", num(1)), of("a", num(2))), api.ErrValueName},
		{"twice, far from one another", doc(of("a", num(1)), of("b", num(1)), of("c", num(1)), of("a", num(1))), api.ErrValueName},
		{"twice but for the letters' height", doc(of("a", num(1)), of("A", num(1))), api.OK},
		{"the beginning of another one", doc(of("aa", num(1)), of("a", num(1))), api.OK},
		{"again within", doc(of("a", doc(of("a", doc(of("a", num(1)))))), of("b", doc(of("a", num(1))))), api.OK},
		{"twice within a list", list(doc(of("a", num(1))), doc(of("b", num(1)), of("b", num(1)))), api.ErrValueName},
		{"in both elements of a list", list(doc(of("a", num(1))), doc(of("a", num(1)))), api.OK},
		{"no name within", doc(of("a", list(num(1), one("")))), api.ErrValueName},
	})
	many := named(5000)
	checkRight(t, []rightRow{{"many names", many, api.OK}})
	many.Doc[4999].Name = "f17"
	checkRight(t, []rightRow{{"many names, one twice", many, api.ErrValueName}})
}

// TestRightOfDepth: the outermost document or list is 1 deep; MaxDepth is the most.
func TestRightOfDepth(t *testing.T) {
	for _, docs := range []bool{false, true} {
		checkRight(t, []rightRow{
			{"MaxDepth", nest(num(1), api.MaxDepth, docs), api.OK},
			{"one more", nest(num(1), api.MaxDepth+1, docs), api.ErrValueDeep},
			{"many more", nest(num(1), 1000, docs), api.ErrValueDeep},
			{"MaxDepth, mixed", nest(nest(txt("a"), 10, docs), 10, !docs), api.OK},
			{"one more, mixed", nest(nest(txt("a"), 11, docs), 10, !docs), api.ErrValueDeep},
			{"MaxDepth, empty within", nest(list(), api.MaxDepth-1, docs), api.OK},
			{"one more, empty list", nest(list(), api.MaxDepth, docs), api.ErrValueDeep},
			{"one more, empty document", nest(doc(), api.MaxDepth, docs), api.ErrValueDeep},
			{"side by side", doc(of("a", nest(null(), api.MaxDepth-1, docs)), of("b", nest(null(), api.MaxDepth-1, docs))), api.OK},
			{"the second one too deep", list(nest(null(), api.MaxDepth-1, docs), nest(null(), api.MaxDepth, docs)), api.ErrValueDeep},
		})
	}
}

// TestRightOfSize: what is too big is told ahead of all else.
func TestRightOfSize(t *testing.T) {
	most := api.MaxDoc - 5
	checkRight(t, []rightRow{
		{"MaxDoc", txt(strings.Repeat("x", most)), api.OK},
		{"one more", txt(strings.Repeat("x", most+1)), api.ErrBig},
		{"MaxDoc of bytes", raw(strings.Repeat("\xff", most)), api.OK},
		{"MaxDoc in a document", doc(of("a", txt(strings.Repeat("x", most-8)))), api.OK},
		{"one more in a document", doc(of("a", txt(strings.Repeat("x", most-7)))), api.ErrBig},
		{"big, no UTF-8", txt(strings.Repeat("\xff", most+1)), api.ErrBig},
		{"big, a wrong name ahead", doc(of("", num(1)), of("a", txt(strings.Repeat("x", most)))), api.ErrBig},
		{"big, a wrong kind ahead", list(api.Value{}, txt(strings.Repeat("x", most))), api.ErrBig},
		{"big by its name", doc(of(strings.Repeat("x", api.MaxDoc), null())), api.ErrBig},
		{"big by its depth", nest(null(), 1<<16-1, false), api.ErrBig},
		{"big where it is not used", api.Value{Kind: api.KindInt, Text: strings.Repeat("x", 1<<17)}, api.ErrValueKind},
	})
}

// TestRightTellsFirst: what is wrong first from the front is told.
func TestRightTellsFirst(t *testing.T) {
	bad := api.Value{Kind: 99}
	deep := nest(null(), api.MaxDepth, false)
	deepStray := nest(api.Value{Kind: api.KindList, Int: 1}, api.MaxDepth, true)
	checkRight(t, []rightRow{
		{"a value ahead of a name", doc(of("a", bad), of("", num(1))), api.ErrValueKind},
		{"a name ahead of a value", doc(of("", num(1)), of("a", bad)), api.ErrValueName},
		{"a name ahead of its value", doc(of("", bad)), api.ErrValueName},
		{"a name again ahead of its value", doc(of("a", num(1)), of("a", bad)), api.ErrValueName},
		{"a value ahead of its name again", doc(of("a", bad), of("a", num(1))), api.ErrValueKind},
		{"a name ahead of a value too deep", doc(of("\x00", deep)), api.ErrValueName},
		{"too deep ahead of a wrong kind", list(deep, bad), api.ErrValueDeep},
		{"a wrong kind ahead of too deep", list(bad, deep), api.ErrValueKind},
		{"too deep ahead of a wrong name", doc(of("a", deep), of("", num(1))), api.ErrValueDeep},
		{"a list ahead of what is in it", api.Value{Kind: api.KindList, Int: 1, List: []api.Value{doc(of("", num(1)))}}, api.ErrValueKind},
		{"a document ahead of what is in it", api.Value{Kind: api.KindDoc, Text: "x", Doc: []api.Field{of("", num(1))}}, api.ErrValueKind},
		{"what is in a list ahead of what is behind", list(doc(of("", num(1))), bad), api.ErrValueName},
		{"of one value too deep ahead of its kind", deepStray, api.ErrValueDeep},
		{"a kind that is none is not too deep", nest(bad, api.MaxDepth, false), api.ErrValueKind},
		{"lists where none is used are not gone into", api.Value{Kind: api.KindInt, List: []api.Value{deep}}, api.ErrValueKind},
	})
}

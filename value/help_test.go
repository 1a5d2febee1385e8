package value_test

import (
	"strconv"
	"testing"

	"coffret/api"
	"coffret/value"
)

func num(n int) api.Value { return api.Value{Kind: api.KindInt, Int: n} }

func date(n int) api.Value { return api.Value{Kind: api.KindDate, Int: n} }

func flag(n int) api.Value { return api.Value{Kind: api.KindBool, Int: n} }

func txt(s string) api.Value { return api.Value{Kind: api.KindText, Text: s} }

func raw(s string) api.Value { return api.Value{Kind: api.KindBytes, Text: s} }

func id(s string) api.Value { return api.Value{Kind: api.KindId, Text: s} }

func null() api.Value { return api.Value{Kind: api.KindNull} }

func list(l ...api.Value) api.Value { return api.Value{Kind: api.KindList, List: l} }

func doc(l ...api.Field) api.Value { return api.Value{Kind: api.KindDoc, Doc: l} }

func of(name string, v api.Value) api.Field { return api.Field{Name: name, Value: v} }

// nest is v within so many lists, or documents.
func nest(v api.Value, many int, docs bool) api.Value {
	for range many {
		if docs {
			v = doc(of("a", v))
		} else {
			v = list(v)
		}
	}
	return v
}

// nulls is a list of so many nulls.
func nulls(many int) api.Value {
	v := list()
	for range many {
		v.List = append(v.List, null())
	}
	return v
}

// named is a document of so many fields f0, f1 and so on, all null.
func named(many int) api.Value {
	v := doc()
	for i := range many {
		v.Doc = append(v.Doc, of("f"+strconv.Itoa(i), null()))
	}
	return v
}

// same tells whether two values are the same, whatever their kinds use.
func same(a, b api.Value) bool {
	if a.Kind != b.Kind || a.Int != b.Int || a.Text != b.Text || len(a.List) != len(b.List) || len(a.Doc) != len(b.Doc) {
		return false
	}
	for i := range a.List {
		if !same(a.List[i], b.List[i]) {
			return false
		}
	}
	for i := range a.Doc {
		if a.Doc[i].Name != b.Doc[i].Name || !same(a.Doc[i].Value, b.Doc[i].Value) {
			return false
		}
	}
	return true
}

func wantSame(t *testing.T, what string, got, want api.Value) {
	t.Helper()
	if !same(got, want) {
		t.Errorf("%s: got %v, want %v", what, got, want)
	}
}

// rising are right values, each ahead of the next one.
func rising() []api.Value {
	return []api.Value{
		{Kind: api.KindMin},
		null(),
		num(api.MinInt), num(api.MinInt + 1), num(-3), num(-1), num(0), num(5), num(7), num(256), num(api.MaxInt),
		txt(""), txt("\x00"), txt("A"), txt("B"), txt("a"), txt("a\x00"), txt("aa"), txt("b"), txt("z"), txt("\u00e9"), txt("\uffff"), txt("\U00010000"),
		doc(),
		doc(of("a", null())),
		doc(of("a", num(1))),
		doc(of("a", num(1)), of("b", num(0))),
		doc(of("a", num(1)), of("b", num(9)), of("c", num(0))),
		doc(of("a", num(1)), of("c", num(0))),
		doc(of("a", num(2))),
		doc(of("a", txt("")), of("A", num(0))),
		doc(of("a", doc())),
		doc(of("a", doc(of("x", num(1))))),
		doc(of("a", list())),
		doc(of("aa", num(0))),
		doc(of("b", num(0))),
		doc(of("b", num(0)), of("a", num(0))),
		doc(of("\u00e9", num(0))),
		list(), list(null()), list(num(1)), list(num(1), num(0)), list(num(1), num(2)), list(num(1), num(2), num(0)), list(num(2)), list(txt("a")), list(doc()), list(list()), list(list(), null()), list(list(null())),
		raw(""), raw("\x00"), raw("a"), raw("ab"), raw("b"), raw("\x80"), raw("\xff"), raw("\xff\x00"),
		id("000000000000"), id("00000000000a"), id("a00000000000"), id("\xff00000000000"),
		flag(0), flag(1),
		date(api.MinInt), date(-1), date(0), date(1), date(api.MaxInt),
		{Kind: api.KindMax},
	}
}

// odd are values that may not be.
func odd() []api.Value {
	return []api.Value{
		{}, {Kind: -1}, {Kind: 12}, {Kind: api.MinInt}, {Kind: api.MaxInt},
		flag(2), flag(-1), id(""), id("short"), id("1234567890123"), txt("\xff"),
		list(api.Value{}), doc(of("", num(1))), doc(of("a", api.Value{})), doc(of("a", num(1)), of("a", num(2))),
	}
}

func sign(n int) int {
	return min(max(n, -1), 1)
}

// isRising tells whether no value stands ahead of the one ahead of it.
func isRising(l []api.Value) bool {
	for i := 1; i < len(l); i++ {
		if value.Compare(l[i-1], l[i]) > 0 {
			return false
		}
	}
	return true
}

package shown_test

import (
	"slices"
	"strings"
	"testing"

	"coffret/api"
	"coffret/shown"
	"coffret/value"
)

func num(n int) api.Value { return api.Value{Kind: api.KindInt, Int: n} }

func null() api.Value { return api.Value{Kind: api.KindNull} }

func list(l ...api.Value) api.Value { return api.Value{Kind: api.KindList, List: l} }

func doc(name string, v api.Value) api.Value {
	return api.Value{Kind: api.KindDoc, Doc: []api.Field{{Name: name, Value: v}}}
}

// shows are values in the order in which they are told.
type shows struct {
	d    api.Value
	path string
	want []api.Value
}

func examples() []shows {
	none := api.Value{}
	some := list(num(5), list(num(6)), null())
	odd := api.Value{Kind: 0, Int: 5}
	both := api.Value{Kind: api.KindInt, Int: 5, List: []api.Value{num(6)}}
	return []shows{
		{doc("a", num(5)), "a", []api.Value{num(5)}},
		{doc("a", num(5)), "b", []api.Value{null()}},
		{doc("a", num(5)), "a b", []api.Value{null()}},
		{doc("a", none), "a", []api.Value{null()}},
		{doc("a", odd), "a", []api.Value{odd}},
		{doc("a", both), "a", []api.Value{both}},
		{doc("a", some), "a", append([]api.Value{some}, some.List...)},
		{doc("a", some), "a 1", []api.Value{list(num(6)), num(6)}},
		{doc("a", some), "a 9", []api.Value{null()}},
		{doc("a", list()), "a", []api.Value{list()}},
		{doc("a", list()), "a b", []api.Value{null()}},
		{doc("a", list(none, odd)), "a", []api.Value{list(none, odd), null(), odd}},
		{doc("a", list(doc("b", some), doc("c", num(1)), num(2), doc("b", num(5)))), "a b", append(append([]api.Value{some}, some.List...), null(), num(5))},
		{num(5), "a", []api.Value{null()}},
		{none, "a", []api.Value{null()}},
		{none, "", []api.Value{null()}},
		{list(num(1)), "a", []api.Value{null()}},
	}
}

func alike(a, b api.Value) bool { return a.Int == b.Int && value.Compare(a, b) == 0 }

// TestIn: each value to which a path leads, lists ahead of their elements, null for missing ones.
func TestIn(t *testing.T) {
	for i, x := range examples() {
		if got := slices.Collect(shown.In(x.d, strings.Fields(x.path))); !slices.EqualFunc(got, x.want, alike) {
			t.Error(i, got, x.want)
		}
	}
	many := doc("a", list(slices.Repeat([]api.Value{doc("b", list(num(1)))}, api.MaxReach+1)...))
	if got := slices.Collect(shown.In(many, []string{"a", "b"})); len(got) != 2*api.MaxReach {
		t.Error(len(got))
	}
}

// TestInEnds: no more is told than is asked for.
func TestInEnds(t *testing.T) {
	for i, x := range examples() {
		for n := range x.want {
			var got []api.Value
			for v := range shown.In(x.d, strings.Fields(x.path)) {
				got = append(got, v)
				if len(got) > n {
					break
				}
			}
			if !slices.EqualFunc(got, x.want[:n+1], alike) {
				t.Error(i, n, got)
			}
		}
	}
}

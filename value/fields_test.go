package value_test

import (
	"testing"

	"coffret/api"
	"coffret/value"
)

// TestGet: the first field of that name (P1.4).
func TestGet(t *testing.T) {
	twice := doc(of("b", num(1)), of("a", txt("x")), of("a", num(3)), of("", num(4)), of("n", doc(of("z", num(5)))), of("m", api.Value{}))
	for _, x := range []struct {
		name string
		want api.Value
		is   bool
	}{
		{"b", num(1), true},
		{"a", txt("x"), true},
		{"", num(4), true},
		{"n", doc(of("z", num(5))), true},
		{"m", api.Value{}, true},
		{"z", api.Value{}, false},
		{"A", api.Value{}, false},
		{"n.z", api.Value{}, false},
		{"\xff", api.Value{}, false},
	} {
		got, is := value.Get(twice, x.name)
		if is != x.is {
			t.Errorf("Get of %q: %v", x.name, is)
		}
		wantSame(t, "Get of "+x.name, got, x.want)
	}
}

// noDocs are values that are no documents, though some have fields.
func noDocs() []api.Value {
	fields := []api.Field{of("a", num(1))}
	l := []api.Value{list(doc(of("a", num(1)))), num(5), txt("a"), {}, {Kind: -5, Doc: fields}}
	for kind := range 13 {
		if kind != api.KindDoc {
			l = append(l, api.Value{Kind: kind, Doc: fields})
		}
	}
	return l
}

func TestFieldsOfNoDocument(t *testing.T) {
	for _, v := range noDocs() {
		got, is := value.Get(v, "a")
		if is {
			t.Errorf("Get of %v finds", v)
		}
		wantSame(t, "Get", got, api.Value{})
		wantSame(t, "With", value.With(v, "a", num(1)), api.Value{})
		wantSame(t, "With a further one", value.With(v, "b", num(1)), api.Value{})
		wantSame(t, "Without", value.Without(v, "a"), api.Value{})
		wantSame(t, "Without another one", value.Without(v, "b"), api.Value{})
	}
	if _, is := value.Get(doc(), "a"); is {
		t.Error("found in no fields")
	}
}

func TestWith(t *testing.T) {
	ab := doc(of("a", num(1)), of("b", num(2)))
	for _, x := range []struct {
		what string
		got  api.Value
		want api.Value
	}{
		{"the first", value.With(ab, "a", txt("x")), doc(of("a", txt("x")), of("b", num(2)))},
		{"the last", value.With(ab, "b", list(num(7))), doc(of("a", num(1)), of("b", list(num(7))))},
		{"a further one", value.With(ab, "c", num(3)), doc(of("a", num(1)), of("b", num(2)), of("c", num(3)))},
		{"to none", value.With(doc(), "c", num(3)), doc(of("c", num(3)))},
		{"the first of two", value.With(doc(of("a", num(1)), of("b", num(2)), of("a", num(3))), "a", null()), doc(of("a", null()), of("b", num(2)), of("a", num(3)))},
		{"itself", value.With(ab, "a", ab), doc(of("a", ab), of("b", num(2)))},
		{"missing", value.With(ab, "a", api.Value{}), doc(of("a", api.Value{}), of("b", num(2)))},
		{"without a name", value.With(ab, "", num(3)), doc(of("a", num(1)), of("b", num(2)), of("", num(3)))},
		{"what may not be", value.With(ab, "b", flag(9)), doc(of("a", num(1)), of("b", flag(9)))},
	} {
		wantSame(t, "With "+x.what, x.got, x.want)
	}
}

func TestWithout(t *testing.T) {
	ab := doc(of("a", num(1)), of("b", num(2)))
	for _, x := range []struct {
		what string
		got  api.Value
		want api.Value
	}{
		{"the first", value.Without(ab, "a"), doc(of("b", num(2)))},
		{"the last", value.Without(ab, "b"), doc(of("a", num(1)))},
		{"none", value.Without(ab, "c"), ab},
		{"of none", value.Without(doc(), "a"), doc()},
		{"all of several", value.Without(doc(of("a", num(1)), of("a", num(2)), of("b", num(3)), of("a", num(4))), "a"), doc(of("b", num(3)))},
		{"all that there are", value.Without(doc(of("a", num(1)), of("a", num(2))), "a"), doc()},
		{"not within", value.Without(doc(of("b", ab)), "a"), doc(of("b", ab))},
		{"without a name", value.Without(doc(of("", num(1)), of("b", num(2))), ""), doc(of("b", num(2)))},
	} {
		wantSame(t, "Without "+x.what, x.got, x.want)
	}
}

// TestGetOfWith: what was put is there, what was taken is not, all else is as it was (P1.8).
func TestGetOfWith(t *testing.T) {
	all := append(rising(), odd()...)
	for _, d := range all {
		if d.Kind != api.KindDoc {
			continue
		}
		for _, name := range []string{"", "a", "b", "new"} {
			for _, x := range all {
				got, is := value.Get(value.With(d, name, x), name)
				if !is {
					t.Errorf("With(%v, %q): not there", d, name)
				}
				wantSame(t, "Get of With", got, x)
			}
			without := value.Without(d, name)
			if _, is := value.Get(without, name); is {
				t.Errorf("Without(%v, %q): still there", d, name)
			}
			checkOthers(t, d, value.With(d, name, num(77)), name)
			checkOthers(t, d, without, name)
		}
	}
}

// checkOthers: all fields but those of that name are in both, in the same order.
func checkOthers(t *testing.T, a, b api.Value, name string) {
	t.Helper()
	others := func(v api.Value) api.Value {
		out := doc()
		for _, f := range v.Doc {
			if f.Name != name {
				out.Doc = append(out.Doc, f)
			}
		}
		return out
	}
	wantSame(t, "other fields", others(b), others(a))
}

// TestClone: v (P1.5).
func TestClone(t *testing.T) {
	for _, v := range append(rising(), odd()...) {
		wantSame(t, "Clone", value.Clone(v), v)
		wantSame(t, "Clone within", value.Clone(doc(of("a", list(v, v)))), doc(of("a", list(v, v))))
	}
	deep := nest(txt("x"), 1<<14, false)
	wantSame(t, "Clone of much nested", value.Clone(deep), deep)
}

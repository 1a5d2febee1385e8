package path_test

import (
	"regexp"
	"slices"
	"strconv"
	"testing"

	"coffret/api"
	"coffret/path"
	"coffret/value"
)

// The chapter's promises word by word, at whatever cost; what is met is met to its end.

var placed = regexp.MustCompile(`^(0|[1-9][0-9]{0,8})$`)

// element is where a list has the element to which a part leads.
func element(l []api.Value, part string) (int, bool) {
	if !placed.MatchString(part) {
		return 0, false
	}
	n, _ := strconv.Atoi(part)
	return n, n < len(l)
}

func modelReach(v api.Value, l []string) []api.Value {
	if len(l) > 10 {
		return nil
	}
	all := modelMet(v, l)
	return all[:min(len(all), 1000)]
}

func modelMet(v api.Value, l []string) []api.Value {
	if len(l) == 0 {
		return row(v)
	}
	switch v.Kind {
	case api.KindDoc:
		if x, is := value.Get(v, l[0]); is {
			return modelMet(x, l[1:])
		}
	case api.KindList:
		var out []api.Value
		for _, x := range v.List {
			if x.Kind == api.KindDoc {
				out = append(out, modelMet(x, l)...)
			}
		}
		if n, is := element(v.List, l[0]); is {
			out = append(out, modelMet(v.List[n], l[1:])...)
		}
		return out
	}
	return row(none())
}

func modelPick(v api.Value, l []string) api.Value {
	if len(l) > 10 {
		return none()
	}
	if len(l) == 0 {
		return v
	}
	switch v.Kind {
	case api.KindDoc:
		if x, is := value.Get(v, l[0]); is {
			return modelPick(x, l[1:])
		}
	case api.KindList:
		out := list()
		for _, x := range v.List {
			if x.Kind == api.KindDoc || x.Kind == api.KindList {
				if got := modelPick(x, l); !same(got, none()) {
					out.List = append(out.List, got)
				}
			}
		}
		return out
	}
	return none()
}

func modelAt(v api.Value, l []string) (api.Value, bool) {
	if len(l) > 10 {
		return none(), false
	}
	if len(l) == 0 {
		return v, true
	}
	if v.Kind == api.KindDoc {
		if x, is := value.Get(v, l[0]); is {
			return modelAt(x, l[1:])
		}
	}
	if v.Kind == api.KindList {
		if n, is := element(v.List, l[0]); is {
			return modelAt(v.List[n], l[1:])
		}
	}
	return none(), false
}

func modelSet(v api.Value, l []string, x api.Value) (api.Value, api.Errno) {
	if len(l) == 0 || len(l) > 10 {
		return none(), api.ErrPath
	}
	under := func(old api.Value) (api.Value, api.Errno) {
		if len(l) == 1 {
			return x, api.OK
		}
		return modelSet(old, l[1:], x)
	}
	switch v.Kind {
	case api.KindDoc:
		old, is := value.Get(v, l[0])
		if !is {
			old = doc()
		}
		got, e := under(old)
		if e != api.OK {
			return none(), e
		}
		return value.With(v, l[0], got), api.OK
	case api.KindList:
		return modelSetElement(v, l[0], under)
	}
	return none(), api.ErrBlocked
}

func modelSetElement(v api.Value, part string, under func(api.Value) (api.Value, api.Errno)) (api.Value, api.Errno) {
	if !placed.MatchString(part) {
		return none(), api.ErrBlocked
	}
	n, is := element(v.List, part)
	if !is && n+1-len(v.List) > 100 {
		return none(), api.ErrPad
	}
	l := slices.Clone(v.List)
	for len(l) < n {
		l = append(l, null())
	}
	if !is {
		l = append(l, doc())
	}
	got, e := under(l[n])
	if e != api.OK {
		return none(), e
	}
	l[n] = got
	return list(l...), api.OK
}

func modelUnset(v api.Value, l []string) api.Value {
	if _, is := modelAt(v, l); !is || len(l) == 0 {
		return v
	}
	if v.Kind == api.KindList {
		n, _ := element(v.List, l[0])
		out := slices.Clone(v.List)
		if out[n] = null(); len(l) > 1 {
			out[n] = modelUnset(v.List[n], l[1:])
		}
		return list(out...)
	}
	if len(l) == 1 {
		return value.Without(v, l[0])
	}
	x, _ := value.Get(v, l[0])
	return value.With(v, l[0], modelUnset(x, l[1:]))
}

// TestModel: all calls tell what the chapter's words tell, of values and parts of all shapes (P4.2 to P4.6).
func TestModel(t *testing.T) {
	d := dice(11)
	for range 60000 {
		v, l, x := d.any(4), d.parts(), d.any(1)
		wantRows(t, "Reach", path.Reach(v, l), modelReach(v, l))
		wantSame(t, "Pick", path.Pick(v, l), modelPick(v, l))
		got, is := path.At(v, l)
		want, wantIs := modelAt(v, l)
		wantSame(t, "At", got, want)
		set, e := path.Set(v, l, x)
		wantSet, wantE := modelSet(v, l, x)
		wantSame(t, "Set", set, wantSet)
		wantSame(t, "Unset", path.Unset(v, l), modelUnset(v, l))
		if is != wantIs || e != wantE {
			t.Errorf("At %v, Set %v; want %v, %v", is, e, wantIs, wantE)
		}
		if t.Failed() {
			t.Fatalf("of %v, %q, %v", v, l, x)
		}
	}
}

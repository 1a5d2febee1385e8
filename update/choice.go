package update

import (
	"coffret/api"
	"coffret/filter"
	"coffret/path"
	"coffret/value"
)

// choice tells whether an element is meant.
type choice func(x api.Value) (bool, api.Errno)

func all(api.Value) (bool, api.Errno) {
	return true, api.OK
}

// like is the choice of elements like a value.
func like(v api.Value) choice {
	return func(x api.Value) (bool, api.Errno) { return value.Compare(x, v) == 0, api.OK }
}

// meant is the choice of elements that a document means, as `$elem` takes it.
func meant(v api.Value) (choice, api.Errno) {
	f, e := filter.Parse(under("v", under("$elem", v)))
	if e != api.OK {
		return nil, e
	}
	return func(x api.Value) (bool, api.Errno) {
		return f.Match(under("v", api.Value{Kind: api.KindList, List: []api.Value{x}}))
	}, api.OK
}

// under is a document of one field.
func under(name string, v api.Value) api.Value {
	return api.Value{Kind: api.KindDoc, Doc: []api.Field{{Name: name, Value: v}}}
}

// readFilters are the filters for elements, by their names; filters is right, or missing.
func readFilters(filters api.Value) (map[string]choice, api.Errno) {
	if filters.Kind != api.KindList && !missing(filters) || len(filters.List) > api.MaxConds {
		return nil, api.ErrUpdateForm
	}
	out := map[string]choice{}
	for _, v := range filters.List {
		as, _ := value.Get(v, "as")
		elem, _ := value.Get(v, "elem")
		if len(v.Doc) != 2 || as.Kind != api.KindText || !isPart(as.Text) || elem.Kind != api.KindDoc || out[as.Text] != nil {
			return nil, api.ErrUpdateForm
		}
		is, e := meant(elem)
		if e != api.OK {
			return nil, e
		}
		out[as.Text] = is
	}
	return out, api.OK
}

// isPart tells whether a path may have that part.
func isPart(s string) bool {
	parts, e := path.Split(s)
	return e == api.OK && len(parts) == 1
}

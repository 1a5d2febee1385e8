package filter

import (
	"strings"

	"coffret/api"
	"coffret/expr"
	"coffret/path"
)

// textName is the name of the field that stands in the outermost filter alone.
const textName = "$text"

// readFilter is the filter that a value is.
func readFilter(v api.Value, outermost bool) (conditions, api.Errno) {
	if v.Kind != api.KindDoc || len(v.Doc) > api.MaxConds {
		return nil, api.ErrFilterForm
	}
	var out conditions
	for _, f := range v.Doc {
		c, e := readField(f.Name, f.Value, outermost)
		if e != api.OK {
			return nil, e
		}
		out = append(out, c)
	}
	return out, api.OK
}

// readField is the condition that a filter's field is.
func readField(name string, v api.Value, outermost bool) (condition, api.Errno) {
	switch name {
	case "$and":
		l, e := readFilters(v)
		return both(l), e
	case "$or":
		l, e := readFilters(v)
		return either(l), e
	case "$nor":
		l, e := readFilters(v)
		return neither{l}, e
	case "$expr":
		by, e := expr.Parse(v)
		return reckoned{by}, e
	case textName:
		if !outermost || v.Kind != api.KindText {
			return nil, api.ErrFilterForm
		}
		return worded{}, api.OK
	}
	if strings.HasPrefix(name, "$") {
		return nil, api.ErrFilterOp
	}
	return readPath(name, v)
}

// readFilters are the filters that a list has, of which there is one at least.
func readFilters(v api.Value) ([]conditions, api.Errno) {
	if !isChoice(v) || len(v.List) == 0 {
		return nil, api.ErrFilterForm
	}
	var out []conditions
	for _, x := range v.List {
		f, e := readFilter(x, false)
		if e != api.OK {
			return nil, e
		}
		out = append(out, f)
	}
	return out, api.OK
}

// readPath is what is asked at a path.
func readPath(name string, v api.Value) (condition, api.Errno) {
	parts, e := path.Split(name)
	if e != api.OK {
		return nil, api.ErrFilterForm
	}
	if !isTests(v) {
		v = api.Value{Kind: api.KindDoc, Doc: []api.Field{{Name: "$eq", Value: v}}}
	}
	l, e := readTests(v)
	if e != api.OK {
		return nil, e
	}
	return field{name, parts, l, condsOf(name, v)}, api.OK
}

// condsOf are those of the tests at a path that Conds tells.
func condsOf(name string, v api.Value) []api.Cond {
	var out []api.Cond
	for _, f := range v.Doc {
		switch f.Name {
		case "$eq", "$gt", "$gte", "$lt", "$lte", "$in", "$prefix":
			out = append(out, api.Cond{Path: name, Op: f.Name, Value: f.Value})
		}
	}
	return out
}

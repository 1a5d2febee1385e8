package filter

import (
	"slices"
	"strings"

	"coffret/api"
	"coffret/value"
)

// isTests tells whether a value is tests, be they such as there are or not.
func isTests(v api.Value) bool {
	return v.Kind == api.KindDoc && len(v.Doc) > 0 && strings.HasPrefix(v.Doc[0].Name, "$")
}

// readTests are the tests that a document is.
func readTests(v api.Value) (tests, api.Errno) {
	if len(v.Doc) > api.MaxConds {
		return nil, api.ErrFilterForm
	}
	var out tests
	for _, f := range v.Doc {
		t, e := readTest(f.Name, f.Value)
		if e != api.OK {
			return nil, e
		}
		out = append(out, t)
	}
	return out, api.OK
}

// readTest is the test of that name with a value.
func readTest(name string, v api.Value) (test, api.Errno) {
	switch name {
	case "$elem":
		return readElem(v)
	case "$not":
		return readNot(v)
	}
	read := testOf(name)
	if read == nil {
		return nil, api.ErrFilterOp
	}
	t := read(v)
	if t == nil {
		return nil, api.ErrFilterForm
	}
	return t, api.OK
}

// readElem is a test of elements: by tests, or by a filter, which may begin with `$`, too.
func readElem(v api.Value) (test, api.Errno) {
	if isTests(v) && !isFilterName(v.Doc[0].Name) {
		l, e := readTests(v)
		return elem(l.alone), e
	}
	l, e := readFilter(v, false)
	return elem(l.meant), e
}

func isFilterName(name string) bool {
	switch name {
	case "$and", "$or", "$nor", "$expr", textName:
		return true
	}
	return false
}

func readNot(v api.Value) (test, api.Errno) {
	if !isTests(v) {
		return nil, api.ErrFilterForm
	}
	l, e := readTests(v)
	return unless{l}, e
}

// testOf makes a test of the value that the name is with, or nil, if it may not be with that; nil: there is no such test of a value alone.
func testOf(name string) func(v api.Value) test {
	switch name {
	case "$eq":
		return equal
	case "$ne":
		return not(equal)
	case "$in":
		return in
	case "$nin":
		return not(in)
	case "$prefix":
		return prefix
	case "$mod":
		return modulo
	case "$type":
		return kind
	case "$exists":
		return existing
	case "$size":
		return size
	case "$all":
		return all
	}
	return orderOf(name)
}

// orderOf is testOf of a test by the order of values.
func orderOf(name string) func(v api.Value) test {
	switch name {
	case "$gt":
		return ordered(func(c int) bool { return c > 0 })
	case "$gte":
		return ordered(func(c int) bool { return c >= 0 })
	case "$lt":
		return ordered(func(c int) bool { return c < 0 })
	case "$lte":
		return ordered(func(c int) bool { return c <= 0 })
	}
	return nil
}

// ordered is a test of values of one kind, by what Compare says.
func ordered(is func(c int) bool) func(v api.Value) test {
	return func(v api.Value) test {
		return some(func(x api.Value) bool {
			x = orNull(x)
			return x.Kind == v.Kind && is(value.Compare(x, v))
		})
	}
}

func not(read func(v api.Value) test) func(v api.Value) test {
	return func(v api.Value) test {
		t := read(v)
		if t == nil {
			return nil
		}
		return unless{t}
	}
}

func equal(v api.Value) test {
	return some(func(x api.Value) bool { return like(x, v) })
}

func in(v api.Value) test {
	if !isChoice(v) {
		return nil
	}
	return some(func(x api.Value) bool {
		return slices.ContainsFunc(v.List, func(w api.Value) bool { return like(x, w) })
	})
}

// isChoice tells whether a value is a list of as many values as a test takes.
func isChoice(v api.Value) bool {
	return v.Kind == api.KindList && len(v.List) <= api.MaxConds
}

func all(v api.Value) test {
	if !isChoice(v) {
		return nil
	}
	var l tests
	for _, w := range v.List {
		l = append(l, equal(w))
	}
	return having{l}
}

func prefix(v api.Value) test {
	if v.Kind != api.KindText {
		return nil
	}
	return some(func(x api.Value) bool { return x.Kind == api.KindText && strings.HasPrefix(x.Text, v.Text) })
}

func modulo(v api.Value) test {
	if v.Kind != api.KindList || len(v.List) != 2 || v.List[0].Kind != api.KindInt || v.List[1].Kind != api.KindInt || v.List[0].Int == 0 {
		return nil
	}
	by, rest := v.List[0].Int, v.List[1].Int
	return some(func(x api.Value) bool { return x.Kind == api.KindInt && x.Int%by == rest })
}

func kind(v api.Value) test {
	if v.Kind != api.KindText || kindOf(v.Text) == 0 {
		return nil
	}
	want := kindOf(v.Text)
	return some(func(x api.Value) bool { return x.Kind == want })
}

// kindOf is the kind that a word says; 0: none.
func kindOf(word string) int {
	switch word {
	case "min":
		return api.KindMin
	case "null":
		return api.KindNull
	case "int":
		return api.KindInt
	case "text":
		return api.KindText
	case "doc":
		return api.KindDoc
	case "list":
		return api.KindList
	case "bytes":
		return api.KindBytes
	case "id":
		return api.KindId
	case "bool":
		return api.KindBool
	case "date":
		return api.KindDate
	case "max":
		return api.KindMax
	}
	return 0
}

func existing(v api.Value) test {
	if v.Kind != api.KindBool {
		return nil
	}
	return exists(v.Int == 1)
}

func size(v api.Value) test {
	if v.Kind != api.KindInt {
		return nil
	}
	return sized(v.Int)
}

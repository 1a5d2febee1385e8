package expr

import (
	"slices"
	"strings"

	"coffret/api"
	"coffret/path"
	"coffret/value"
)

// rootName is bound to the document everywhere.
const rootName = "ROOT"

// scope are the names that are bound where an expression stands, one bound within behind those bound outside. A name's place there is that of its value among what a worker has bound.
type scope []string

func (s scope) with(names ...string) scope {
	return slices.Concat(s, names)
}

// place is where the innermost one of that name stands; -1, if there is none.
func (s scope) place(name string) int {
	for i := len(s) - 1; i >= 0; i-- {
		if s[i] == name {
			return i
		}
	}
	return -1
}

// read is the expression that a value is; nil, if it is none.
func read(v api.Value, s scope) node {
	switch v.Kind {
	case api.KindText:
		return readText(v, s)
	case api.KindList:
		if l, is := readAll(v.List, s); is {
			return row(l)
		}
		return nil
	case api.KindDoc:
		return readDoc(v, s)
	}
	return plain{v}
}

// readAll are the expressions that values are, if all are, and there are not too many.
func readAll(l []api.Value, s scope) ([]node, bool) {
	if len(l) > api.MaxConds {
		return nil, false
	}
	out := make([]node, len(l))
	for i, v := range l {
		if out[i] = read(v, s); out[i] == nil {
			return nil, false
		}
	}
	return out, true
}

func readText(v api.Value, s scope) node {
	if way, is := strings.CutPrefix(v.Text, "$$"); is {
		return readVariable(way, s)
	}
	if way, is := strings.CutPrefix(v.Text, "$"); is {
		return readField(way, s)
	}
	return plain{v}
}

func readVariable(way string, s scope) node {
	parts, e := path.Split(way)
	if e != api.OK {
		return nil
	}
	at := s.place(parts[0])
	if at < 0 {
		return nil
	}
	return variable{at, parts[1:]}
}

func readField(way string, s scope) node {
	parts, e := path.Split(way)
	if e != api.OK {
		return nil
	}
	return variable{s.place(rootName), parts}
}

func readDoc(v api.Value, s scope) node {
	if len(v.Doc) == 1 && strings.HasPrefix(v.Doc[0].Name, "$") {
		return readCall(v.Doc[0].Name, v.Doc[0].Value, s)
	}
	var names []string
	var values []api.Value
	for _, f := range v.Doc {
		if strings.HasPrefix(f.Name, "$") {
			return nil
		}
		names, values = append(names, f.Name), append(values, f.Value)
	}
	l, is := readAll(values, s)
	if !is {
		return nil
	}
	return record{names, l}
}

func readCall(name string, v api.Value, s scope) node {
	switch name {
	case "$literal":
		return plain{v}
	case "$map":
		return readMap(v, s)
	case "$filter":
		return readFilter(v, s)
	case "$reduce":
		return readReduce(v, s)
	}
	op, l := operatorOf(name), arguments(v)
	if op == nil || !op.takes(len(l)) {
		return nil
	}
	args, is := readAll(l, s)
	if !is {
		return nil
	}
	return call{op, args}
}

// arguments are those of a call that has that value.
func arguments(v api.Value) []api.Value {
	if v.Kind == api.KindList {
		return v.List
	}
	return []api.Value{v}
}

func readMap(v api.Value, s scope) node {
	input, in, is := readEach(v, "in", s)
	if !is {
		return nil
	}
	return mapping{input, in}
}

func readFilter(v api.Value, s scope) node {
	input, cond, is := readEach(v, "cond", s)
	if !is {
		return nil
	}
	return filtering{input, cond}
}

// readEach are an input, and the expression of that name, in which an element of the input is bound.
func readEach(v api.Value, name string, s scope) (input, each node, is bool) {
	l, is := fields(v, "input", "as", name)
	if !is || !mayBeBound(l[1]) {
		return nil, nil, false
	}
	input, each = read(l[0], s), read(l[2], s.with(l[1].Text))
	return input, each, input != nil && each != nil
}

func readReduce(v api.Value, s scope) node {
	l, is := fields(v, "input", "initial", "in")
	if !is {
		return nil
	}
	input, initial, in := read(l[0], s), read(l[1], s), read(l[2], s.with("value", "this"))
	if input == nil || initial == nil || in == nil {
		return nil
	}
	return reducing{input, initial, in}
}

// fields are the values of a document that has just these fields, in any order.
func fields(v api.Value, names ...string) ([]api.Value, bool) {
	if len(v.Doc) != len(names) {
		return nil, false
	}
	var l []api.Value
	for _, name := range names {
		x, is := value.Get(v, name)
		if !is {
			return nil, false
		}
		l = append(l, x)
	}
	return l, true
}

// mayBeBound tells whether a value is a name that may be bound to elements.
func mayBeBound(v api.Value) bool {
	if v.Kind != api.KindText || v.Text == rootName {
		return false
	}
	parts, e := path.Split(v.Text)
	return e == api.OK && len(parts) == 1
}

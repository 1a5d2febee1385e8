package update_test

import (
	"regexp"
	"slices"
	"strconv"
	"strings"

	"coffret/api"
	"coffret/filter"
	"coffret/path"
	"coffret/value"
)

// The chapter's words, word by word, at whatever cost: an update is gone through as it stands, each time, and each document is made anew. An error is a panic.

var (
	aPart = regexp.MustCompile(`^[^.$\x00][^.\x00]{0,99}$`)
	aPath = regexp.MustCompile(`^[^.$][^.]*(\.[^.$][^.]*){0,9}$`)
	aWay  = regexp.MustCompile(`^[^.$][^.]*(\.([^.$][^.]*|\$|\$\[\]|\$\[[^.$][^.]*\])){0,9}$`)
)

const operatorNames = "$set $unset $inc $mul $min $max $rename $push $add $pull $pop $setOnInsert"

func isMissing(v api.Value) bool { return same(v, api.Value{}) }

func beginsWithOp(v api.Value) bool { return len(v.Doc) > 0 && v.Doc[0].Name[0] == '$' }

// tell panics with an error, if that holds.
func tell(e api.Errno, is bool) {
	if is {
		panic(e)
	}
}

// told is what a model answers, or the error with which it panics.
func told(model func() api.Value) (v api.Value, e api.Errno) {
	defer func() {
		if r := recover(); r != nil {
			v, e = api.Value{}, r.(api.Errno)
		}
	}()
	return model(), api.OK
}

func modelParse(v, filters api.Value) {
	e := value.Right(v)
	tell(e, e != api.OK)
	e = value.Right(filters)
	tell(e, e != api.OK && !isMissing(filters))
	tell(form, v.Kind != api.KindDoc)
	tell(form, !isMissing(filters) && filters.Kind != api.KindList)
	names := modelFilters(filters)
	if !beginsWithOp(v) {
		for _, f := range v.Doc {
			tell(form, f.Name[0] == '$')
		}
		return
	}
	var ways []string
	for _, f := range v.Doc {
		tell(none, !slices.Contains(strings.Fields(operatorNames), f.Name))
		tell(form, f.Value.Kind != api.KindDoc)
		for _, x := range f.Value.Doc {
			modelWay(x.Name, names)
			modelTakes(f.Name, x.Name, x.Value)
			ways = append(ways, x.Name)
			if f.Name == "$rename" {
				ways = append(ways, x.Value.Text)
			}
		}
	}
	for i, a := range ways {
		for j, b := range ways {
			tell(both, i != j && (a == b || strings.HasPrefix(b, a+".")))
		}
	}
}

// modelFilters are the names of filters.
func modelFilters(filters api.Value) []string {
	tell(form, len(filters.List) > 100)
	var names []string
	for _, f := range filters.List {
		as, _ := value.Get(f, "as")
		elem, _ := value.Get(f, "elem")
		tell(form, len(f.Doc) != 2 || as.Kind != api.KindText || !aPart.MatchString(as.Text) || elem.Kind != api.KindDoc || slices.Contains(names, as.Text))
		modelElem(elem)
		names = append(names, as.Text)
	}
	return names
}

// modelElem is the filter that asks a list at v for an element as elem has it.
func modelElem(elem api.Value) *filter.Filter {
	f, e := filter.Parse(op("v", op("$elem", elem)))
	tell(e, e != api.OK)
	return f
}

func modelWay(way string, names []string) {
	tell(form, !aWay.MatchString(way) || strings.Count(way+".", ".$.") > 1)
	for _, part := range strings.Split(way, ".") {
		tell(form, strings.HasPrefix(part, "$[") && part != "$[]" && !slices.Contains(names, part[2:len(part)-1]))
	}
	tell(id, way == "_id" || strings.HasPrefix(way, "_id."))
}

func modelTakes(name, way string, v api.Value) {
	each := len(v.Doc) > 0 && v.Doc[0].Name == "$each"
	switch name {
	case "$inc", "$mul":
		tell(form, v.Kind != api.KindInt)
	case "$pop":
		tell(form, !same(v, num(1)) && !same(v, num(-1)))
	case "$rename":
		tell(form, !aPath.MatchString(way) || v.Kind != api.KindText || !aPath.MatchString(v.Text))
		tell(id, v.Text == "_id" || strings.HasPrefix(v.Text, "_id."))
	case "$pull":
		if v.Kind == api.KindDoc {
			modelElem(v)
		}
	case "$add":
		tell(form, each && (len(v.Doc) > 1 || v.Doc[0].Value.Kind != api.KindList))
	case "$push":
		for _, f := range v.Doc {
			switch x := f.Value; {
			case !each:
			case f.Name == "$each":
				tell(form, x.Kind != api.KindList)
			case f.Name == "$sort":
				tell(form, !same(x, num(1)) && !same(x, num(-1)))
			default:
				tell(form, f.Name != "$at" && f.Name != "$slice" || x.Kind != api.KindInt)
			}
		}
	}
}

// run is one update as it is applied.
type run struct {
	v, filters, first api.Value
	by                *filter.Filter
	inserting         bool
}

func right(v api.Value) api.Value {
	e := value.Right(v)
	tell(e, e != api.OK)
	return v
}

func (r run) apply(d api.Value) api.Value {
	tell(api.ErrUpdateKind, d.Kind != api.KindDoc)
	if !beginsWithOp(r.v) {
		return right(modelReplace(r.v, d))
	}
	r.first = d
	for _, f := range r.v.Doc {
		for _, x := range f.Value.Doc {
			if f.Name == "$setOnInsert" && !r.inserting {
				continue
			}
			for _, end := range r.ends(d, strings.Split(x.Name, "."), nil) {
				d = modelDo(f.Name, x.Value, d, end)
				tell(api.ErrBig, value.Size(d) > 65536)
			}
		}
	}
	return right(d)
}

func modelReplace(v, d api.Value) api.Value {
	was, is := value.Get(d, "_id")
	own, given := value.Get(v, "_id")
	tell(id, is && given && value.Compare(was, own) != 0 || given && !is)
	if !is {
		return v
	}
	out := op("_id", was)
	for _, f := range v.Doc {
		if f.Name != "_id" {
			out.Doc = append(out.Doc, f)
		}
	}
	return out
}

// ends are those of a way, some parts of which led to these.
func (r run) ends(d api.Value, parts, ahead []string) [][]string {
	if len(ahead) == len(parts) {
		return [][]string{ahead}
	}
	part := parts[len(ahead)]
	here := []string{part}
	if part == "$" {
		n := -1
		if r.by != nil {
			n = r.by.Position(r.first, strings.Join(parts[:len(ahead)], "."))
		}
		tell(api.ErrUpdatePosition, n == -1)
		here[0] = strconv.Itoa(n)
	} else if part[0] == '$' {
		l, _ := path.At(d, ahead)
		tell(api.ErrBlocked, l.Kind != api.KindList)
		here = r.chosen(part, l.List)
	}
	var out [][]string
	for _, x := range here {
		out = append(out, r.ends(d, parts, append(slices.Clone(ahead), x))...)
	}
	return out
}

func (r run) chosen(part string, l []api.Value) []string {
	var out []string
	for i, x := range l {
		is := part == "$[]"
		for _, f := range r.filters.List {
			as, _ := value.Get(f, "as")
			elem, _ := value.Get(f, "elem")
			if "$["+as.Text+"]" == part {
				is = modelMeans(elem, x)
			}
		}
		if is {
			out = append(out, strconv.Itoa(i))
		}
	}
	return out
}

func modelMeans(elem, x api.Value) bool {
	is, e := modelElem(elem).Match(op("v", list(x)))
	tell(e, e != api.OK)
	return is
}

func modelDo(name string, v, d api.Value, end []string) api.Value {
	there, is := path.At(d, end)
	set := func(x api.Value) api.Value {
		out, e := path.Set(d, end, x)
		tell(e, e != api.OK)
		return out
	}
	switch name {
	case "$set", "$setOnInsert":
		return set(v)
	case "$unset":
		return path.Unset(d, end)
	case "$inc", "$mul":
		tell(api.ErrUpdateKind, is && there.Kind != api.KindInt)
		return set(modelReckon(name, is, there, v))
	case "$min", "$max":
		if is && value.Compare(v, there) != map[string]int{"$min": -1, "$max": 1}[name] {
			return d
		}
		return set(v)
	case "$rename":
		if !is {
			return d
		}
		d = path.Unset(d, end)
		end = strings.Split(v.Text, ".")
		return set(there)
	}
	if !is && (name == "$pull" || name == "$pop") {
		return d
	}
	tell(api.ErrUpdateKind, is && there.Kind != api.KindList)
	return set(list(modelList(name, v, there.List)...))
}

func modelReckon(name string, is bool, there, v api.Value) api.Value {
	if !is {
		return num(map[string]int{"$inc": v.Int, "$mul": 0}[name])
	}
	n := there.Int + v.Int
	if name == "$mul" {
		n = there.Int * v.Int
		tell(api.ErrExprOver, there.Int != 0 && (n/there.Int != v.Int || there.Int == -1 && v.Int == api.MinInt))
		return num(n)
	}
	tell(api.ErrExprOver, there.Int > 0 && v.Int > 0 && n < 0 || there.Int < 0 && v.Int < 0 && n >= 0)
	return num(n)
}

func modelList(name string, v api.Value, l []api.Value) []api.Value {
	each := []api.Value{v}
	if (name == "$push" || name == "$add") && len(v.Doc) > 0 && v.Doc[0].Name == "$each" {
		each = v.Doc[0].Value.List
	}
	switch name {
	case "$push":
		if len(v.Doc) == 0 || v.Doc[0].Name != "$each" {
			v = doc()
		}
		return modelPush(v, l, each)
	case "$add":
		for _, x := range each {
			if !slices.ContainsFunc(l, func(y api.Value) bool { return value.Compare(x, y) == 0 }) {
				l = append(l, x)
			}
		}
	case "$pull":
		var out []api.Value
		for _, x := range l {
			if v.Kind == api.KindDoc && !modelMeans(v, x) || v.Kind != api.KindDoc && value.Compare(x, v) != 0 {
				out = append(out, x)
			}
		}
		return out
	case "$pop":
		if len(l) > 0 && v.Int == -1 {
			return l[1:]
		}
		return l[:max(len(l)-1, 0)]
	}
	return l
}

func modelPush(v api.Value, l, each []api.Value) []api.Value {
	at := len(l)
	if n, is := value.Get(v, "$at"); is {
		for i := range l { // the place, counted
			if n.Int == i || n.Int == i-len(l) {
				at = i
			}
		}
		if n.Int < -len(l) {
			at = 0
		}
	}
	l = slices.Insert(l, at, each...)
	if s, is := value.Get(v, "$sort"); is {
		l = value.Sort(l)
		if s.Int == -1 {
			slices.Reverse(l)
		}
	}
	if n, is := value.Get(v, "$slice"); is {
		for n.Int >= 0 && len(l) > n.Int {
			l = l[:len(l)-1]
		}
		for n.Int < 0 && n.Int > -len(l) {
			l = l[1:]
		}
	}
	return l
}

func (r run) insert() api.Value {
	d := doc()
	if r.by != nil {
		for _, c := range r.by.Conds() {
			if c.Op == "$eq" {
				out, e := path.Set(d, strings.Split(c.Path, "."), c.Value)
				tell(e, e != api.OK)
				d = out
			}
		}
	}
	if beginsWithOp(r.v) {
		r.by, r.inserting = nil, true
		return r.apply(d)
	}
	if was, is := value.Get(d, "_id"); is {
		return right(modelReplace(r.v, op("_id", was)))
	}
	return r.v
}

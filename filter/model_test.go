package filter_test

import (
	"regexp"
	"slices"
	"strings"
	"testing"

	"coffret/api"
	"coffret/expr"
	"coffret/filter"
	"coffret/path"
	"coffret/value"
)

// The chapter's words, word by word, at whatever cost: a filter is gone through as it stands, each time. An expression's error is a panic.

var aPath = regexp.MustCompile(`^[^.$][^.]*(\.[^.$][^.]*){0,9}$`)

func modelIsTests(v api.Value) bool {
	return v.Kind == api.KindDoc && len(v.Doc) > 0 && strings.HasPrefix(v.Doc[0].Name, "$")
}

// modelParse is what Parse tells of a value that is right.
func modelParse(v api.Value, outermost bool) api.Errno {
	if v.Kind != api.KindDoc || len(v.Doc) > 100 {
		return api.ErrFilterForm
	}
	for _, f := range v.Doc {
		if e := modelParseField(f.Name, f.Value, outermost); e != api.OK {
			return e
		}
	}
	return api.OK
}

func modelParseField(name string, v api.Value, outermost bool) api.Errno {
	switch {
	case name == "$and" || name == "$or" || name == "$nor":
		if v.Kind != api.KindList || len(v.List) < 1 || len(v.List) > 100 {
			return api.ErrFilterForm
		}
		for _, x := range v.List {
			if e := modelParse(x, false); e != api.OK {
				return e
			}
		}
		return api.OK
	case name == "$expr":
		_, e := expr.Parse(v)
		return e
	case name == "$text":
		return formUnless(outermost && v.Kind == api.KindText)
	case name[0] == '$':
		return api.ErrFilterOp
	case !aPath.MatchString(name):
		return api.ErrFilterForm
	case modelIsTests(v):
		return modelParseTests(v)
	}
	return api.OK
}

func formUnless(is bool) api.Errno {
	if is {
		return api.OK
	}
	return api.ErrFilterForm
}

func modelParseTests(v api.Value) api.Errno {
	if len(v.Doc) > 100 {
		return api.ErrFilterForm
	}
	for _, f := range v.Doc {
		if e := modelParseTest(f.Name, f.Value); e != api.OK {
			return e
		}
	}
	return api.OK
}

func modelParseTest(name string, v api.Value) api.Errno {
	switch name {
	case "$eq", "$ne", "$gt", "$gte", "$lt", "$lte":
		return api.OK
	case "$in", "$nin", "$all":
		return formUnless(v.Kind == api.KindList && len(v.List) <= 100)
	case "$prefix":
		return formUnless(v.Kind == api.KindText)
	case "$mod":
		return formUnless(v.Kind == api.KindList && len(v.List) == 2 && v.List[0].Kind == api.KindInt && v.List[1].Kind == api.KindInt && v.List[0].Int != 0)
	case "$type":
		return formUnless(v.Kind == api.KindText && slices.Contains(strings.Fields("min null int text doc list bytes id bool date max"), v.Text))
	case "$exists":
		return formUnless(v.Kind == api.KindBool)
	case "$size":
		return formUnless(v.Kind == api.KindInt)
	case "$not":
		if !modelIsTests(v) {
			return api.ErrFilterForm
		}
		return modelParseTests(v)
	case "$elem":
		if modelIsTests(v) && !slices.Contains(strings.Fields("$and $or $nor $expr $text"), v.Doc[0].Name) {
			return modelParseTests(v)
		}
		return modelParse(v, false)
	}
	return api.ErrFilterOp
}

// modelMatch is what Match tells of a filter that may be.
func modelMatch(f, d api.Value) (is bool, e api.Errno) {
	defer func() {
		if r := recover(); r != nil {
			is, e = false, r.(api.Errno)
		}
	}()
	return modelMeans(f, d), api.OK
}

func modelMeans(f, d api.Value) bool {
	for _, x := range f.Doc {
		if !modelField(x.Name, x.Value, d) {
			return false
		}
	}
	return true
}

func modelField(name string, v, d api.Value) bool {
	switch name {
	case "$and":
		for _, f := range v.List {
			if !modelMeans(f, d) {
				return false
			}
		}
		return true
	case "$or":
		for _, f := range v.List {
			if modelMeans(f, d) {
				return true
			}
		}
		return false
	case "$nor":
		for _, f := range v.List {
			if modelMeans(f, d) {
				return false
			}
		}
		return true
	case "$expr":
		x, _ := expr.Parse(v)
		got, e := x.Eval(d)
		if e != api.OK {
			panic(e)
		}
		return expr.Truth(got)
	case "$text":
		return true
	}
	tested := path.Reach(d, strings.Split(name, "."))
	if !modelIsTests(v) {
		return modelTest("$eq", v, tested)
	}
	return modelTests(v, tested)
}

func modelTests(v api.Value, tested []api.Value) bool {
	for _, f := range v.Doc {
		if !modelTest(f.Name, f.Value, tested) {
			return false
		}
	}
	return true
}

// modelTest is what one test says of values, elements apart.
func modelTest(name string, v api.Value, tested []api.Value) bool {
	switch name {
	case "$ne":
		return !modelTest("$eq", v, tested)
	case "$nin":
		return !modelTest("$in", v, tested)
	case "$in":
		return slices.ContainsFunc(v.List, func(w api.Value) bool { return modelTest("$eq", w, tested) })
	case "$all":
		return len(v.List) > 0 && !slices.ContainsFunc(v.List, func(w api.Value) bool { return modelTest("$ne", w, tested) })
	case "$not":
		return !modelTests(v, tested)
	case "$exists":
		return (v.Int == 1) == slices.ContainsFunc(tested, func(x api.Value) bool { return !same(x, api.Value{}) })
	case "$size":
		return slices.ContainsFunc(tested, func(x api.Value) bool { return x.Kind == api.KindList && len(x.List) == v.Int })
	case "$elem":
		return slices.ContainsFunc(tested, func(x api.Value) bool {
			return x.Kind == api.KindList && slices.ContainsFunc(x.List, func(y api.Value) bool { return modelElem(v, y) })
		})
	}
	for _, x := range tested {
		l := []api.Value{x}
		if x.Kind == api.KindList {
			l = append(l, x.List...)
		}
		if slices.ContainsFunc(l, func(y api.Value) bool { return modelIs(name, v, y) }) {
			return true
		}
	}
	return false
}

func modelElem(v, y api.Value) bool {
	if modelIsTests(v) && !slices.Contains(strings.Fields("$and $or $nor $expr $text"), v.Doc[0].Name) {
		return modelTests(v, []api.Value{y})
	}
	return y.Kind == api.KindDoc && modelMeans(v, y)
}

// modelIs is what a test says of one value.
func modelIs(name string, v, x api.Value) bool {
	if name == "$type" {
		return x.Kind > 0 && x.Kind < 12 && strings.Fields("min null int text doc list bytes id bool date max")[x.Kind-1] == v.Text
	}
	if same(x, api.Value{}) {
		x = null()
	}
	c := value.Compare(x, v)
	switch name {
	case "$eq":
		return c == 0
	case "$gt":
		return x.Kind == v.Kind && c == 1
	case "$gte":
		return x.Kind == v.Kind && c != -1
	case "$lt":
		return x.Kind == v.Kind && c == -1
	case "$lte":
		return x.Kind == v.Kind && c != 1
	case "$prefix":
		return x.Kind == api.KindText && len(x.Text) >= len(v.Text) && x.Text[:len(v.Text)] == v.Text
	case "$mod":
		return x.Kind == api.KindInt && (v.List[0].Int == -1 && v.List[1].Int == 0 || v.List[0].Int != -1 && x.Int-x.Int/v.List[0].Int*v.List[0].Int == v.List[1].Int)
	}
	panic(name)
}

// modelFields are the fields with a path of the outermost filter and of those in `$and`.
func modelFields(f api.Value) []api.Field {
	var out []api.Field
	for _, x := range f.Doc {
		if x.Name == "$and" {
			for _, y := range x.Value.List {
				out = append(out, modelFields(y)...)
			}
		} else if x.Name[0] != '$' {
			out = append(out, x)
		}
	}
	return out
}

func modelConds(f api.Value) []api.Cond {
	var out []api.Cond
	for _, x := range modelFields(f) {
		if !modelIsTests(x.Value) {
			out = append(out, api.Cond{Path: x.Name, Op: "$eq", Value: x.Value})
			continue
		}
		for _, y := range x.Value.Doc {
			if slices.Contains(strings.Fields("$eq $gt $gte $lt $lte $in $prefix"), y.Name) {
				out = append(out, api.Cond{Path: x.Name, Op: y.Name, Value: y.Value})
			}
		}
	}
	return out
}

func modelPosition(f, d api.Value, at string) int {
	if !aPath.MatchString(at) {
		return -1
	}
	parts := strings.Split(at, ".")
	l, _ := path.At(d, parts)
	on := doc()
	for _, x := range modelFields(f) {
		if x.Name == at || strings.HasPrefix(x.Name, at+".") {
			on.Doc = append(on.Doc, x)
		}
	}
	if l.Kind != api.KindList || len(on.Doc) == 0 {
		return -1
	}
	for i, x := range l.List {
		one, e := path.Set(d, parts, list(x))
		if e != api.OK {
			panic(e)
		}
		if is, _ := modelMatch(on, one); is {
			return i
		}
	}
	return -1
}

// maker makes documents and filters that look like any; these often ask for what stands at the path in the last document.
type maker struct {
	*dice
	last api.Value
	seen []api.Value
}

func newMaker(n int) *maker {
	d := dice(n)
	return &maker{dice: &d}
}

func (m *maker) path() string {
	return pick(m.dice, "a", "a", "b", "l", "l", "l", "x", "x", "x.k", "x.k", "x.n", "x.k.n", "d", "d.k", "d.l", "d.l", "l.0", "l.1", "x.0", "x.1.k", "z", "l.k", "d.l.k", "x.l.0")
}

// wanted is a value that a filter asks for.
func (m *maker) wanted(deep int) api.Value {
	if len(m.seen) > 0 && m.below(2) == 0 {
		return pick(m.dice, m.seen...)
	}
	return m.value(m.below(deep + 1))
}

// note notes a value and what is in it, as far as it may be.
func (m *maker) note(v api.Value) {
	if value.Right(v) == api.OK && value.Size(v) < 60 {
		m.seen = append(m.seen, v)
	}
	for _, x := range v.List {
		m.note(x)
	}
	for _, f := range v.Doc {
		m.note(f.Value)
	}
}

// value is a value that may be.
func (m *maker) value(deep int) api.Value {
	switch m.below(14) {
	case 0, 1:
		if deep > 0 {
			v := list()
			for range m.below(4) {
				v.List = append(v.List, m.value(deep-1))
			}
			return v
		}
	case 2, 3:
		if deep > 0 {
			v := doc()
			for _, name := range []string{"k", "n", "l"} {
				if m.below(2) == 0 {
					v.Doc = append(v.Doc, of(name, m.value(deep-1)))
				}
			}
			return v
		}
	case 4:
		return pick(m.dice, kinds()...)
	case 5:
		return txt(pick(m.dice, "", "x", "xy", "y", "é"))
	case 6:
		return pick(m.dice, null(), flag(true), flag(false), date(1), num(api.MinInt))
	}
	return num(m.below(5) - 1)
}

// document is a document, seldom something else, with a value, now and then, that may not be.
func (m *maker) document(deep int) api.Value {
	d := doc()
	for _, name := range []string{"a", "b", "l", "x", "d"} {
		if m.below(8) == 0 {
			continue
		}
		v := m.value(deep - 1)
		switch {
		case name == "x" && m.below(4) > 0, name == "l" && m.below(4) > 0:
			v = list()
			for range m.below(5) {
				v.List = append(v.List, pick(m.dice, doc(of("k", m.value(1)), of("n", m.value(1))), doc(of("n", m.value(1)), of("l", m.value(2))), m.value(1)))
			}
		case name == "d" && m.below(4) > 0:
			v = doc(of("k", m.value(1)), of("l", list(m.value(1), m.value(1))))
		case m.below(40) == 0:
			v = pick(m.dice, api.Value{}, list(api.Value{}), api.Value{Kind: 77})
		}
		d.Doc = append(d.Doc, of(name, v))
	}
	m.last = d
	if m.below(50) == 0 {
		return pick(m.dice, list(d, d), m.value(2), api.Value{}, doc(append(d.Doc, d.Doc...)...))
	}
	return d
}

// filter is a filter that may be.
func (m *maker) filter(deep int) api.Value { return m.fields(deep, []string{m.path(), m.path()}) }

// fields are a filter's, at these paths or joined.
func (m *maker) fields(deep int, paths []string) api.Value {
	f := doc()
	put := func(name string, v api.Value) {
		if _, is := value.Get(f, name); !is {
			f.Doc = append(f.Doc, of(name, v))
		}
	}
	for _, p := range paths[:1+m.below(len(paths))] {
		m.seen = nil
		for _, v := range path.Reach(m.last, strings.Split(p, ".")) {
			m.note(v)
		}
		switch n := m.below(10); {
		case n == 0:
			put("$expr", pick(m.dice, val(`{"$gt": ["$a", 1]}`), val(`{"$mod": [5, "$a"]}`), val(`{"$size": "$l"}`), txt("$a"), num(0), val(`{"$gte": ["$k", 0]}`), val(`{"$abs": "$k"}`)))
		case n < 4 && deep > 0:
			l := list()
			for range 1 + m.below(3) {
				l.List = append(l.List, m.fields(deep-1, paths))
			}
			put(pick(m.dice, "$and", "$or", "$nor"), l)
		case n < 6:
			if v := m.wanted(2); !modelIsTests(v) {
				put(p, v)
			}
		default:
			put(p, m.tests(deep))
		}
	}
	return f
}

func (m *maker) tests(deep int) api.Value {
	v := doc()
	for range 1 + m.below(2) {
		if f := m.test(deep); !slices.ContainsFunc(v.Doc, func(g api.Field) bool { return f.Name == g.Name }) {
			v.Doc = append(v.Doc, f)
		}
	}
	return v
}

func (m *maker) test(deep int) api.Field {
	name := pick(m.dice, strings.Fields("$eq $ne $gt $gte $lt $lte $in $nin $prefix $mod $type $exists $size $all $elem $elem $elem $not")...)
	switch name {
	case "$in", "$nin", "$all":
		l := list()
		for range m.below(4) {
			l.List = append(l.List, m.wanted(1))
		}
		return of(name, l)
	case "$prefix":
		return of(name, txt(pick(m.dice, "", "x", "xy", "é")))
	case "$mod":
		return of(name, list(num(pick(m.dice, 2, -2, 3, -1, 1, 7)), num(m.below(4)-1)))
	case "$type":
		return of(name, txt(pick(m.dice, strings.Fields("min null int int text doc list list bytes id bool date max")...)))
	case "$exists":
		return of(name, flag(m.below(2) == 0))
	case "$size":
		return of(name, num(m.below(5)-1))
	case "$elem":
		if deep > 0 && m.below(2) == 0 {
			return of(name, m.fields(deep-1, []string{"k", "n", "l", "k", "l.0"}))
		}
		return of(name, m.tests(deep-1))
	case "$not":
		return of(name, m.tests(deep-1))
	}
	return of(name, m.wanted(2))
}

// names are those of all tests in a filter.
func names(v api.Value, put func(string)) {
	for _, f := range v.Doc {
		put(f.Name)
		names(f.Value, put)
	}
	for _, x := range v.List {
		names(x, put)
	}
}

// TestModel: filters of all shapes mean what the chapter's words say (P6.2, P6.3, P6.4).
func TestModel(t *testing.T) {
	m := newMaker(77)
	type count struct{ yes, no int }
	seen, errs, found := map[string]count{}, map[api.Errno]int{}, map[int]int{}
	for range 40000 {
		d, v := m.document(3), m.filter(m.below(3))
		f := parse(t, v)
		want, wantE := modelMatch(v, d)
		for range 2 {
			if got, e := f.Match(d); got != want || e != wantE {
				t.Fatalf("%s of %s: %v %d, want %v %d", show(v), show(d), got, e, want, wantE)
			}
		}
		if !sameConds(f.Conds(), modelConds(v)) {
			t.Fatalf("%s: %v, want %v", show(v), f.Conds(), modelConds(v))
		}
		p := pick(m.dice, strings.Fields("l x d.l x.1.k l.0 d .l")...)
		if on := modelFields(v); len(on) > 0 && m.below(4) > 0 { // of a path that is asked for, or of one that begins it
			p = pick(m.dice, on...).Name
			if at := strings.LastIndex(p, "."); at > 0 && m.below(2) == 0 {
				p = p[:at]
			}
		}
		at := modelPosition(v, d, p)
		if got := f.Position(d, p); got != at {
			t.Fatalf("%s of %s at %s: %d, want %d", show(v), show(d), p, got, at)
		}
		errs[wantE]++
		found[at]++
		names(v, func(s string) {
			c := seen[s]
			if want {
				c.yes++
			} else {
				c.no++
			}
			seen[s] = c
		})
	}
	for _, s := range strings.Fields("$and $or $nor $expr $eq $ne $gt $gte $lt $lte $in $nin $prefix $mod $type $exists $size $all $elem $not") {
		if seen[s].yes < 300 || seen[s].no < 300 {
			t.Errorf("too few of %s: %v", s, seen[s])
		}
	}
	if errs[api.ErrExprZero] < 50 || errs[api.ErrExprKind] < 50 || found[0] < 300 || found[1] < 100 || found[2] < 30 || found[-1] < 300 {
		t.Error("too few", errs, found)
	}
}

// spoilt is a filter with something else at some place.
func (m *maker) spoilt(v api.Value) api.Value {
	some := func() api.Value {
		return pick(m.dice, num(0), txt("x"), txt("$"), list(), list(num(1)), list(doc(), num(1)), doc(), val(`{"$x": 1}`), val(`{"$gt": 1}`), val(`{"k": 1}`), val(`{"k": 1, "$text": "x"}`), val(`{"$text": "x"}`), val(`{"$expr": "$"}`), val(`{"$expr": 1, "$gt": 1}`), val(`{"$gt": 1, "$expr": 1}`), null(), flag(true), date(1))
	}
	v = value.Clone(v)
	switch {
	case len(v.Doc) > 0 && m.below(6) > 0:
		f := &v.Doc[m.below(len(v.Doc))]
		if m.below(4) == 0 {
			f.Name = pick(m.dice, "$", "$x", "a.", "a..b", "$text", "$expr", "$and", "$size", "$mod", "$elem", "$not", "$exists", "k", "a.$", "1.2.3.4.5.6.7.8.9.10", "1.2.3.4.5.6.7.8.9.10.11", "$type", "$prefix", "$all")
		} else {
			f.Value = m.spoilt(f.Value)
		}
	case len(v.List) > 0 && m.below(6) > 0:
		at := m.below(len(v.List))
		v.List[at] = m.spoilt(v.List[at])
	default:
		return some()
	}
	return v
}

// TestModelParse: what is wrong first is told, or nothing (P6.1).
func TestModelParse(t *testing.T) {
	m := newMaker(99)
	errs := map[api.Errno]int{}
	for range 50000 {
		v := m.filter(1 + m.below(3))
		for range m.below(3) {
			v = m.spoilt(v)
		}
		want := value.Right(v)
		if want == api.OK {
			want = modelParse(v, true)
		}
		if f, e := filter.Parse(v); e != want || (f != nil) != (e == api.OK) {
			t.Fatalf("%s: %d, want %d", show(v), e, want)
		}
		errs[want]++
	}
	for _, e := range []api.Errno{api.OK, api.ErrFilterForm, api.ErrFilterOp, api.ErrExprForm, api.ErrValueName} {
		if errs[e] < 50 {
			t.Error("too few", e, errs)
		}
	}
}

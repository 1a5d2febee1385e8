package expr_test

import (
	"cmp"
	"math/big"
	"slices"
	"strconv"
	"strings"
	"testing"

	"coffret/api"
	"coffret/expr"
	"coffret/path"
	"coffret/value"
)

// The chapter's words, word by word, at whatever cost: an expression is gone through as it stands, each time. An error is a panic.

type model struct{ steps int }

// names are what is bound.
type names map[string]api.Value

func (n names) with(name string, v api.Value) names {
	out := names{name: v}
	for k, x := range n {
		if k != name {
			out[k] = x
		}
	}
	return out
}

// modelOf is what an expression comes to of a document.
func modelOf(v, d api.Value) (out api.Value, e api.Errno) {
	defer func() {
		if r := recover(); r != nil {
			out, e = api.Value{}, r.(api.Errno)
		}
	}()
	return (&model{}).eval(v, names{"ROOT": d}), api.OK
}

func (m *model) step() {
	if m.steps >= 20000 {
		panic(api.ErrExprWork)
	}
	m.steps++
}

func small(v api.Value) api.Value {
	if value.Size(v) > 65536 {
		panic(api.ErrBig)
	}
	return v
}

func isNothing(v api.Value) bool { return v.Kind < 2 && same(v, api.Value{}) || v.Kind == api.KindNull }

func nulled(v api.Value) api.Value {
	if same(v, api.Value{}) {
		return null()
	}
	return v
}

func (m *model) eval(v api.Value, n names) api.Value {
	m.step()
	switch {
	case v.Kind == api.KindText && strings.HasPrefix(v.Text, "$$"):
		parts := strings.Split(v.Text[2:], ".")
		return path.Pick(n[parts[0]], parts[1:])
	case v.Kind == api.KindText && strings.HasPrefix(v.Text, "$"):
		return path.Pick(n["ROOT"], strings.Split(v.Text[1:], "."))
	case v.Kind == api.KindList:
		out := list()
		for _, x := range v.List {
			out.List = append(out.List, nulled(m.eval(x, n)))
			small(out)
		}
		return out
	case v.Kind == api.KindDoc && len(v.Doc) == 1 && strings.HasPrefix(v.Doc[0].Name, "$"):
		return small(m.call(v.Doc[0].Name, v.Doc[0].Value, n))
	case v.Kind == api.KindDoc:
		out := doc()
		for _, f := range v.Doc {
			if x := m.eval(f.Value, n); !same(x, api.Value{}) {
				out.Doc = append(out.Doc, of(f.Name, x))
				small(out)
			}
		}
		return out
	}
	return v
}

func (m *model) call(name string, v api.Value, n names) api.Value {
	args := []api.Value{v}
	if v.Kind == api.KindList {
		args = v.List
	}
	switch name {
	case "$literal":
		return v
	case "$map", "$filter", "$reduce":
		return m.each(name, v, n)
	case "$and", "$or":
		for _, x := range args {
			if expr.Truth(m.eval(x, n)) == (name == "$or") {
				return flag(name == "$or")
			}
		}
		return flag(name == "$and")
	case "$cond":
		if expr.Truth(m.eval(args[0], n)) {
			return nulled(m.eval(args[1], n))
		}
		return nulled(m.eval(args[2], n))
	case "$ifNull":
		if x := m.eval(args[0], n); !isNothing(x) {
			return x
		}
		return nulled(m.eval(args[1], n))
	}
	var l []api.Value
	for _, x := range args {
		l = append(l, m.eval(x, n))
	}
	if out, is := modelLoose(name, l); is {
		return out
	}
	if slices.ContainsFunc(l, isNothing) {
		return null()
	}
	if name == "$range" {
		return m.numbers(ints(l, 2))
	}
	return modelStrict(name, l)
}

func (m *model) numbers(l []int) api.Value {
	out := list()
	bytes := value.Size(out)
	for n := l[0]; n < l[1]; n++ {
		m.step()
		out.List = append(out.List, num(n))
		if bytes += 2 + len(strconv.Itoa(len(out.List)-1)) + 8; bytes > 65536 {
			panic(api.ErrBig)
		}
	}
	return small(out)
}

func (m *model) each(name string, v api.Value, n names) api.Value {
	field := func(name string) api.Value { x, _ := value.Get(v, name); return x }
	input := m.eval(field("input"), n)
	if isNothing(input) {
		return null()
	}
	must(input.Kind == api.KindList)
	out, so := list(), api.Value{}
	if name == "$reduce" {
		so = small(m.eval(field("initial"), n))
	}
	for _, x := range input.List {
		switch name {
		case "$map":
			out.List = append(out.List, nulled(m.eval(field("in"), n.with(field("as").Text, x))))
		case "$filter":
			if expr.Truth(m.eval(field("cond"), n.with(field("as").Text, x))) {
				out.List = append(out.List, x)
			}
		case "$reduce":
			so = small(m.eval(field("in"), n.with("this", x).with("value", so)))
		}
		small(out)
	}
	if name == "$reduce" {
		return so
	}
	return out
}

func must(is bool) {
	if !is {
		panic(api.ErrExprKind)
	}
}

func all(l []api.Value, kinds ...int) {
	for _, v := range l {
		must(slices.Contains(kinds, v.Kind))
	}
}

// ints are numbers' numbers.
func ints(l []api.Value, many int) []int {
	all(l, api.KindInt)
	var out []int
	for _, v := range l[:many] {
		out = append(out, v.Int)
	}
	return out
}

// modelLoose is what an operator that is not marked N comes to, if it is one.
func modelLoose(name string, l []api.Value) (api.Value, bool) {
	switch name {
	case "$min", "$max":
		if len(l) == 1 && l[0].Kind == api.KindList {
			l = l[0].List
		}
		l = value.Sort(slices.DeleteFunc(slices.Clone(l), isNothing))
		switch {
		case len(l) == 0:
			return null(), true
		case name == "$min":
			return l[0], true
		}
		return l[slices.IndexFunc(l, func(v api.Value) bool { return value.Compare(v, l[len(l)-1]) == 0 })], true
	case "$has":
		all(l[1:], api.KindList)
		return flag(slices.ContainsFunc(l[1].List, func(v api.Value) bool { return value.Compare(v, nulled(l[0])) == 0 })), true
	case "$not":
		return flag(!expr.Truth(l[0])), true
	case "$toBool":
		return flag(expr.Truth(l[0])), true
	case "$type":
		return txt(strings.Fields("missing min null int text doc list bytes id bool date max")[l[0].Kind]), true
	}
	if len(l) != 2 {
		return api.Value{}, false
	}
	c := value.Compare(nulled(l[0]), nulled(l[1]))
	is, there := map[string]bool{"$eq": c == 0, "$ne": c != 0, "$gt": c > 0, "$gte": c >= 0, "$lt": c < 0, "$lte": c <= 0}[name]
	if name == "$cmp" {
		return num(c), true
	}
	return flag(is), there
}

// modelStrict is what an operator that is marked N comes to.
func modelStrict(name string, l []api.Value) api.Value {
	switch name {
	case "$add", "$multiply", "$subtract", "$divide", "$mod", "$abs":
		return modelNumber(name, l)
	case "$concat", "$lower", "$upper", "$length", "$find", "$split", "$part":
		return modelText(name, l)
	case "$size", "$at", "$slice", "$join", "$reverse":
		return modelList(name, l)
	case "$toInt":
		all(l, api.KindInt, api.KindDate, api.KindBool, api.KindText)
		if l[0].Kind != api.KindText {
			return num(l[0].Int)
		}
		n, is := new(big.Int).SetString(l[0].Text, 10)
		must(is && !strings.ContainsAny(l[0].Text, "+_"))
		return num(within(n))
	case "$toText":
		all(l, api.KindInt, api.KindText, api.KindBool)
		return txt([]string{api.KindInt: strconv.Itoa(l[0].Int), api.KindText: l[0].Text, api.KindBool: strconv.FormatBool(l[0].Int != 0)}[l[0].Kind])
	case "$toDate":
		all(l, api.KindInt, api.KindDate)
		return date(l[0].Int)
	case "$merge":
		all(l, api.KindDoc)
		out := doc()
		for _, v := range l {
			for _, f := range v.Doc {
				out = small(value.With(out, f.Name, f.Value))
			}
		}
		return out
	}
	all(l, api.KindDate)
	return num(dateParts(l[0].Int)[slices.Index(dateNames(), name)])
}

func within(n *big.Int) int {
	if !n.IsInt64() {
		panic(api.ErrExprOver)
	}
	return int(n.Int64())
}

func modelNumber(name string, l []api.Value) api.Value {
	a := big.NewInt(int64(l[0].Int))
	kind := api.KindInt
	switch name {
	case "$add":
		all(l, api.KindInt, api.KindDate)
		dates := 0
		for _, v := range l {
			if v.Kind == api.KindDate {
				dates++
				kind = api.KindDate
			}
		}
		must(dates < 2)
		for _, v := range l[1:] {
			within(a.Add(a, big.NewInt(int64(v.Int))))
		}
		return api.Value{Kind: kind, Int: within(a)}
	case "$subtract":
		all(l, api.KindInt, api.KindDate)
		must(l[0].Kind >= l[1].Kind)
		if l[0].Kind > l[1].Kind {
			kind = api.KindDate
		}
		return api.Value{Kind: kind, Int: within(a.Sub(a, big.NewInt(int64(l[1].Int))))}
	}
	all(l, api.KindInt)
	switch name {
	case "$multiply":
		for _, v := range l[1:] {
			within(a.Mul(a, big.NewInt(int64(v.Int))))
		}
		return num(within(a))
	case "$abs":
		return num(within(a.Abs(a)))
	}
	if l[1].Int == 0 {
		panic(api.ErrExprZero)
	}
	if name == "$mod" {
		return num(within(a.Rem(a, big.NewInt(int64(l[1].Int)))))
	}
	return num(within(a.Quo(a, big.NewInt(int64(l[1].Int)))))
}

// modelPart are so many pieces from a place on.
func modelPart[T any](l []T, from, many int) []T {
	var out []T
	for i, x := range l {
		if i >= from && many > 0 {
			out = append(out, x)
			many--
		}
	}
	return out
}

func modelText(name string, l []api.Value) api.Value {
	all(l[:1], api.KindText)
	runes := []rune(l[0].Text)
	ascii := func(from, to rune) api.Value {
		for i, r := range runes {
			if r >= from && r <= from+25 {
				runes[i] = r - from + to
			}
		}
		return txt(string(runes))
	}
	switch name {
	case "$concat":
		all(l, api.KindText)
		s := ""
		for _, v := range l {
			s += v.Text
			small(txt(s))
		}
		return txt(s)
	case "$lower":
		return ascii('A', 'a')
	case "$upper":
		return ascii('a', 'A')
	case "$length":
		return num(len(runes))
	case "$part":
		n := ints(l[1:], 2)
		return txt(string(modelPart(runes, n[0], n[1])))
	}
	all(l, api.KindText)
	if name == "$find" {
		for i := range len(runes) + 1 {
			if strings.HasPrefix(string(runes[i:]), l[1].Text) {
				return num(i)
			}
		}
		return num(-1)
	}
	must(l[1].Text != "")
	out := list()
	rest, more := l[0].Text, true
	for more {
		var piece string
		piece, rest, more = strings.Cut(rest, l[1].Text)
		out.List = append(out.List, txt(piece))
		small(out)
	}
	return out
}

func modelList(name string, l []api.Value) api.Value {
	all(l[:1], api.KindList)
	row := l[0].List
	out := list()
	switch name {
	case "$size":
		return num(len(row))
	case "$at":
		n := ints(l[1:], 1)[0]
		for i, v := range row {
			if n == i || n == i-len(row) {
				return v
			}
		}
		return api.Value{}
	case "$slice":
		n := ints(l[1:], 2)
		out.List = modelPart(row, n[0], n[1])
	case "$reverse":
		out.List = slices.Clone(row)
		slices.Reverse(out.List)
	case "$join":
		all(l, api.KindList)
		for _, v := range l {
			out.List = append(out.List, v.List...)
			small(out)
		}
	}
	return out
}

// maker makes expressions that look like any, of which most come to something.
type maker struct {
	dice  *dice
	bound []string
}

func (m *maker) any(deep int) api.Value {
	if deep <= 0 {
		return pick(m.dice, m.number, m.text, m.list, m.flat, m.flat)(0)
	}
	return pick(m.dice, m.number, m.text, m.list, m.flat, m.truth, m.row, m.record, m.order)(deep - 1)
}

// flat is a field, a variable, or what stands for itself.
func (m *maker) flat(int) api.Value {
	if len(m.bound) > 0 && m.dice.below(2) == 0 {
		return txt("$$" + pick(m.dice, m.bound...) + pick(m.dice, "", "", "", ".k", ".0"))
	}
	if m.dice.below(2) == 0 {
		return pick(m.dice, append(kinds(), doc(), list(), num(0), flag(false))...)
	}
	return txt(pick(m.dice, "$a", "$z", "$n", "$b", "$e", "$l", "$le", "$ln", "$t", "$y", "$f", "$d", "$d.k", "$d.l", "$d.l.k", "$d.l.m", "$de", "$mi", "$ma", "$by", "$id", "$z0", "$$ROOT", "$$ROOT.a", "$0.1", "plain"))
}

// one is a call of one argument: in a list, if it is one itself.
func one(name string, v api.Value) api.Value {
	if v.Kind == api.KindList {
		return call(name, v)
	}
	return op(name, v)
}

// mostly is one of a kind, seldom any.
func (m *maker) mostly(f func(int) api.Value, deep int) api.Value {
	if m.dice.below(20) == 0 {
		return m.any(deep)
	}
	return f(deep)
}

func (m *maker) numbers(n, deep int) []api.Value {
	var l []api.Value
	for range n {
		l = append(l, m.mostly(m.number, deep))
	}
	return l
}

func (m *maker) number(deep int) api.Value {
	if deep <= 0 {
		return pick(m.dice, num(m.dice.below(12)-3), num(m.dice.below(5)), num(pick(m.dice, edges()...)), txt("$a"), txt("$z0"), txt("$d.k"))
	}
	deep--
	if m.dice.below(300) == 0 {
		return m.work()
	}
	switch m.dice.below(11) {
	case 0, 1:
		return call(pick(m.dice, "$add", "$multiply"), m.numbers(1+m.dice.below(3), deep)...)
	case 2:
		return call(pick(m.dice, "$subtract", "$divide", "$mod"), m.numbers(2, deep)...)
	case 3:
		return one("$abs", m.mostly(m.number, deep))
	case 4:
		return one("$length", m.mostly(m.text, deep))
	case 5:
		return call("$find", m.mostly(m.text, deep), m.mostly(m.text, deep))
	case 6:
		return one("$size", m.mostly(m.list, deep))
	case 7:
		return one("$toInt", m.any(deep))
	case 8:
		return one(pick(m.dice, dateNames()...), pick(m.dice, txt("$t"), one("$toDate", m.number(deep)), call("$add", txt("$t"), m.number(deep))))
	case 9:
		return call("$cmp", m.any(deep), m.any(deep))
	}
	return m.reduce(deep, "$add")
}

// work takes about as many steps as there may be.
func (m *maker) work() api.Value {
	many := func(n int) api.Value { return call("$range", num(0), num(n)) }
	return call("$size", op("$map", doc(of("input", many(140)), of("as", txt("x")), of("in", call("$size", many(137+m.dice.below(3)))))))
}

func (m *maker) text(deep int) api.Value {
	if deep <= 0 {
		return pick(m.dice, txt("aXbé"), txt("é"), txt(""), txt("Xb"), txt("$b"), txt("-12"), txt("99999999999999999999"))
	}
	deep--
	switch m.dice.below(6) {
	case 0:
		return call("$concat", m.mostly(m.text, deep), m.mostly(m.text, deep), m.text(deep))
	case 1:
		return one(pick(m.dice, "$lower", "$upper", "$toText", "$type"), m.mostly(m.text, deep))
	case 2:
		return call("$part", append([]api.Value{m.mostly(m.text, deep)}, m.numbers(2, deep)...)...)
	case 3:
		return one(pick(m.dice, "$toText", "$type"), m.any(deep))
	}
	return m.reduce(deep, "$concat")
}

func (m *maker) list(deep int) api.Value {
	if deep <= 0 {
		return pick(m.dice, txt("$l"), txt("$ln"), txt("$le"), txt("$d.l"), txt("$d.l.m"), val(`[1, [2], "x"]`))
	}
	deep--
	switch m.dice.below(10) {
	case 0:
		return call("$split", m.mostly(m.text, deep), m.mostly(m.text, deep))
	case 1:
		return call("$slice", append([]api.Value{m.mostly(m.list, deep)}, m.numbers(2, deep)...)...)
	case 2:
		return call("$join", m.mostly(m.list, deep), m.mostly(m.list, deep))
	case 3:
		return one("$reverse", m.mostly(m.list, deep))
	case 4:
		return call("$range", num(m.dice.below(9)-4), num(pick(m.dice, 0, 3, 5, 9, 9, 9, 3, 0, 140, 6000)))
	case 5, 6:
		return op("$map", m.bind(deep, "in", m.any))
	case 7, 8:
		return op("$filter", m.bind(deep, "cond", m.truth))
	}
	return m.row(deep)
}

// bind binds a name in what the last field takes.
func (m *maker) bind(deep int, last string, in func(int) api.Value) api.Value {
	name := pick(m.dice, "x", "y", "this")
	v := doc(of("input", m.mostly(m.list, deep)), of("as", txt(name)))
	was := m.bound
	m.bound = append(slices.Clip(was), name)
	v.Doc = append(v.Doc, of(last, in(deep)))
	m.bound = was
	slices.SortFunc(v.Doc, func(a, b api.Field) int { return cmp.Compare(a.Name[1:], b.Name[1:]) })
	return v
}

func (m *maker) reduce(deep int, name string) api.Value {
	v := doc(of("input", m.mostly(m.list, deep)), of("initial", m.any(deep)))
	was := m.bound
	m.bound = append(slices.Clip(was), "this", "value")
	in := pick(m.dice, call(name, txt("$$value"), txt("$$this")), call("$join", txt("$$value"), list(txt("$$this"))), m.any(deep), list(txt("$$value"), txt("$$value")))
	m.bound = was
	return op("$reduce", doc(append(v.Doc, of("in", in))...))
}

func (m *maker) truth(deep int) api.Value {
	if deep <= 0 {
		return m.flat(0)
	}
	deep--
	switch m.dice.below(6) {
	case 0:
		return call(pick(m.dice, "$and", "$or"), m.truth(deep), m.any(deep), m.truth(deep))
	case 1:
		return one(pick(m.dice, "$not", "$toBool"), m.any(deep))
	case 2:
		return call("$has", m.any(deep), m.mostly(m.list, deep))
	}
	return call(pick(m.dice, "$eq", "$ne", "$gt", "$gte", "$lt", "$lte"), m.any(deep), m.any(deep))
}

func (m *maker) order(deep int) api.Value {
	switch m.dice.below(5) {
	case 0:
		return call(pick(m.dice, "$min", "$max"), m.any(deep), m.any(deep), m.any(deep))
	case 1:
		return one(pick(m.dice, "$min", "$max"), m.any(deep))
	case 2:
		return call("$cond", m.truth(deep), m.any(deep), m.any(deep))
	case 3:
		return call("$at", m.mostly(m.list, deep), num(m.dice.below(8)-4))
	}
	return call("$ifNull", m.any(deep), m.any(deep))
}

func (m *maker) row(deep int) api.Value {
	v := list()
	for range m.dice.below(4) {
		v.List = append(v.List, m.any(deep))
	}
	return v
}

func (m *maker) record(deep int) api.Value {
	v := doc()
	for _, name := range []string{"c", "a", "b", "é"} {
		if m.dice.below(2) == 0 {
			v.Doc = append(v.Doc, of(name, m.any(deep)))
		}
	}
	if m.dice.below(3) == 0 {
		return call("$merge", v, m.mostly(m.record, deep-1), pick(m.dice, txt("$d"), v, doc()))
	}
	return v
}

// TestModel: expressions of all shapes come to what the chapter's words say (P5.3).
func TestModel(t *testing.T) {
	m := &maker{dice: new(dice)}
	*m.dice = 77
	seen, errs := map[int]int{}, map[api.Errno]int{}
	d := sample()
	for range 40000 {
		v := m.any(1 + m.dice.below(4))
		want, wantE := modelOf(v, d)
		x, e := expr.Parse(v)
		if e != api.OK {
			if value.Right(v) == api.OK {
				t.Fatalf("Parse of %s: %v", show(v), e)
			}
			continue
		}
		got, e := x.Eval(d)
		if e != wantE || !same(got, want) {
			t.Fatalf("%s: %.300s %d, want %.300s %d", show(v), show(got), e, show(want), wantE)
		}
		again, e := x.Eval(d)
		if e != wantE || !same(again, want) {
			t.Fatalf("%s: another time %.300s %d", show(v), show(again), e)
		}
		seen[want.Kind]++
		errs[wantE]++
	}
	for kind := range api.KindMax + 1 {
		if seen[kind] < 100 {
			t.Errorf("too few of kind %d: %d", kind, seen[kind])
		}
	}
	for _, e := range []api.Errno{api.OK, api.ErrBig, api.ErrExprKind, api.ErrExprOver, api.ErrExprZero, api.ErrExprWork} {
		if errs[e] < 10 {
			t.Errorf("too few of error %d: %d", e, errs[e])
		}
	}
}

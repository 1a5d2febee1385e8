package pipe_test

import (
	"math/big"
	"slices"
	"strings"
	"testing"

	"coffret/api"
	"coffret/expr"
	"coffret/filter"
	"coffret/path"
	"coffret/pipe"
	"coffret/value"
)

// The model says the chapter word by word, slowly; errors are panics.

func fail(is bool, e api.Errno) {
	if is {
		panic(e)
	}
}

// told is what a part of the model panicked with.
func told(e *api.Errno) {
	switch x := recover().(type) {
	case nil:
	case api.Errno:
		*e = x
	default:
		panic(x)
	}
}

// modelParse is Parse: P8.1.
func modelParse(v api.Value) (e api.Errno) {
	defer told(&e)
	e = value.Right(v)
	fail(e != api.OK, e)
	fail(v.Kind != api.KindList, form)
	fail(len(v.List) > 20, form)
	for i, s := range v.List {
		fail(s.Kind != api.KindDoc || len(s.Doc) != 1, form)
		modelParseStage(s.Doc[0].Name, s.Doc[0].Value, i == 0)
	}
	return api.OK
}

func modelParseStage(name string, v api.Value, first bool) {
	switch name {
	case "$match":
		_, e := filter.Parse(v)
		fail(e != api.OK, e)
		_, text := value.Get(v, "$text")
		fail(text && !first, form)
	case "$project":
		modelFields(v, 1, 100)
		for _, f := range v.Doc {
			modelPart(f.Name)
			if !same(f.Value, num(0)) && !same(f.Value, num(1)) {
				modelExpr(f.Value)
			}
		}
	case "$set":
		modelFields(v, 1, 100)
		for _, f := range v.Doc {
			modelPath(txt(f.Name))
			modelExpr(f.Value)
		}
	case "$group":
		modelFields(v, 1, 100)
		fail(v.Doc[0].Name != "_id", form)
		modelExpr(v.Doc[0].Value)
		for _, f := range v.Doc[1:] {
			modelPart(f.Name)
			modelFields(f.Value, 1, 1)
			fail(!slices.Contains(strings.Fields("$sum $avg $min $max $first $last $push $add"), f.Value.Doc[0].Name), form)
			modelExpr(f.Value.Doc[0].Value)
		}
	case "$sort":
		modelFields(v, 1, 4)
		for _, f := range v.Doc {
			modelPath(txt(f.Name))
			fail(!same(f.Value, num(1)) && !same(f.Value, num(-1)), form)
		}
	case "$limit", "$skip":
		fail(v.Kind != api.KindInt || v.Int < 0, form)
	case "$unwind":
		if v.Kind == api.KindDoc {
			modelFields(v, 2, 2)
			p, _ := value.Get(v, "path")
			keep, _ := value.Get(v, "keep")
			modelPath(p)
			fail(keep.Kind != api.KindBool, form)
			return
		}
		modelPath(v)
	case "$lookup":
		modelFields(v, 4, 4)
		from, _ := value.Get(v, "from")
		fail(from.Kind != api.KindText, form)
		for _, name := range []string{"local", "foreign", "as"} {
			x, _ := value.Get(v, name)
			modelPath(x)
		}
	case "$union":
		fail(v.Kind != api.KindText, form)
	case "$count":
		fail(v.Kind != api.KindText, form)
		modelPart(v.Text)
	case "$replace":
		modelExpr(v)
	default:
		fail(true, form)
	}
}

func modelFields(v api.Value, least, most int) {
	fail(v.Kind != api.KindDoc || len(v.Doc) < least || len(v.Doc) > most, form)
}

func modelPart(s string) {
	parts, e := path.Split(s)
	fail(e != api.OK || len(parts) != 1, form)
}

func modelPath(v api.Value) []string {
	parts, e := path.Split(v.Text)
	fail(e != api.OK || v.Kind != api.KindText, form)
	return parts
}

func modelExpr(v api.Value) {
	_, e := expr.Parse(v)
	fail(e != api.OK, e)
}

// modelRun is Run: P8.2.
func modelRun(v api.Value, docs []api.Value, other func(string) []api.Value) (out []api.Value, e api.Errno) {
	defer func() {
		if e != api.OK {
			out = nil
		}
	}()
	defer told(&e)
	modelAsk(docs)
	for _, s := range v.List {
		docs = modelStage(s.Doc[0].Name, s.Doc[0].Value, docs, other)
	}
	return docs, api.OK
}

func modelAsk(docs []api.Value) {
	for _, d := range docs {
		fail(d.Kind != api.KindDoc, api.ErrPipeKind)
	}
	n := 0
	for i, d := range docs {
		n += value.Size(d)
		fail(i+1 > 5000 || n > 4194304, api.ErrPipeMany)
	}
}

// modelOut are documents as they are made.
type modelOut struct {
	l []api.Value
	n int
}

func (o *modelOut) make(d api.Value) {
	e := value.Right(d)
	fail(e != api.OK, e)
	o.l = append(o.l, d)
	o.n += value.Size(d)
	fail(len(o.l) > 5000 || o.n > 4194304, api.ErrPipeMany)
}

func modelOther(other func(string) []api.Value, name string) []api.Value {
	if other == nil {
		return nil
	}
	l := other(name)
	modelAsk(l)
	return l
}

func modelStage(name string, v api.Value, docs []api.Value, other func(string) []api.Value) []api.Value {
	o := &modelOut{}
	switch name {
	case "$match":
		return modelMatch(v, docs)
	case "$sort":
		return modelSort(v, docs)
	case "$limit":
		return docs[:min(len(docs), v.Int)]
	case "$skip":
		return docs[min(len(docs), v.Int):]
	case "$project":
		for _, d := range docs {
			o.make(modelProject(v, d))
		}
	case "$set":
		for _, d := range docs {
			o.make(modelSet(v, d))
		}
	case "$group":
		modelGroup(v, docs, o)
	case "$unwind":
		for _, d := range docs {
			modelUnwind(v, d, o)
		}
	case "$lookup":
		if len(docs) > 0 {
			from, _ := value.Get(v, "from")
			l := modelOther(other, from.Text)
			for _, d := range docs {
				o.make(modelLookup(v, d, l))
			}
		}
	case "$union":
		for _, d := range docs {
			o.make(d)
		}
		for _, d := range modelOther(other, v.Text) {
			o.make(d)
		}
	case "$count":
		o.make(op(v.Text, num(len(docs))))
	case "$replace":
		for _, d := range docs {
			x := modelEval(v, d)
			fail(x.Kind != api.KindDoc, api.ErrPipeKind)
			o.make(x)
		}
	}
	return o.l
}

func modelEval(v, d api.Value) api.Value {
	x, e := expr.Parse(v)
	fail(e != api.OK, e)
	y, e := x.Eval(d)
	fail(e != api.OK, e)
	return y
}

func modelMatch(v api.Value, docs []api.Value) (out []api.Value) {
	f, e := filter.Parse(v)
	fail(e != api.OK, e)
	for _, d := range docs {
		is, e := f.Match(d)
		fail(e != api.OK, e)
		if is {
			out = append(out, d)
		}
	}
	return out
}

func modelProject(v, d api.Value) api.Value {
	takes := false
	for _, f := range v.Doc {
		if f.Name != "_id" && !same(f.Value, num(0)) {
			takes = true
		}
	}
	out := doc()
	for _, f := range d.Doc {
		x, is := value.Get(v, f.Name)
		stays := !(is && same(x, num(0)))
		if takes {
			stays = is && same(x, num(1)) || !is && f.Name == "_id"
		}
		if stays {
			out.Doc = append(out.Doc, f)
		}
	}
	for _, f := range v.Doc {
		if !takes || same(f.Value, num(0)) || same(f.Value, num(1)) {
			continue
		}
		if x := modelEval(f.Value, d); x.Kind != 0 {
			out.Doc = append(out.Doc, of(f.Name, x))
		}
	}
	return out
}

func modelSet(v, d api.Value) api.Value {
	var l []api.Value
	for _, f := range v.Doc {
		l = append(l, modelEval(f.Value, d))
	}
	for i, f := range v.Doc {
		if l[i].Kind != 0 {
			var e api.Errno
			d, e = path.Set(d, modelPath(txt(f.Name)), l[i])
			fail(e != api.OK, e)
		}
	}
	return d
}

func modelShows(d api.Value, way string) (out []api.Value) {
	for _, x := range path.Reach(d, modelPath(txt(way))) {
		out = append(out, modelNull(x))
		if x.Kind == api.KindList {
			for _, y := range x.List {
				out = append(out, modelNull(y))
			}
		}
	}
	if len(out) == 0 {
		return []api.Value{null()}
	}
	return out
}

func modelNull(v api.Value) api.Value {
	if same(v, api.Value{}) {
		return null()
	}
	return v
}

func modelSort(v api.Value, docs []api.Value) []api.Value {
	out := slices.Clone(docs)
	behind := func(a, b api.Value) bool {
		for _, f := range v.Doc {
			x, y := value.Sort(modelShows(a, f.Name)), value.Sort(modelShows(b, f.Name))
			c := value.Compare(x[0], y[0])
			if f.Value.Int < 0 {
				c = -value.Compare(x[len(x)-1], y[len(y)-1])
			}
			if c != 0 {
				return c > 0
			}
		}
		return false
	}
	for i := range out {
		for k := i; k > 0 && behind(out[k-1], out[k]); k-- {
			out[k-1], out[k] = out[k], out[k-1]
		}
	}
	return out
}

func modelUnwind(v, d api.Value, o *modelOut) {
	keep := api.Value{}
	if v.Kind == api.KindDoc {
		keep, _ = value.Get(v, "keep")
		v, _ = value.Get(v, "path")
	}
	parts := modelPath(v)
	x, is := path.At(d, parts)
	if x.Kind == api.KindList && len(x.List) > 0 {
		for _, y := range x.List {
			got, e := path.Set(d, parts, y)
			fail(e != api.OK, e)
			o.make(got)
		}
		return
	}
	if !is || same(modelNull(x), null()) || x.Kind == api.KindList {
		if keep.Int == 1 {
			o.make(d)
		}
		return
	}
	o.make(d)
}

func modelLookup(v, d api.Value, l []api.Value) api.Value {
	local, _ := value.Get(v, "local")
	foreign, _ := value.Get(v, "foreign")
	as, _ := value.Get(v, "as")
	m := list()
	for _, other := range l {
		meets := slices.ContainsFunc(modelShows(other, foreign.Text), func(x api.Value) bool {
			return slices.ContainsFunc(modelShows(d, local.Text), func(y api.Value) bool { return value.Compare(x, y) == 0 })
		})
		if meets {
			m.List = append(m.List, other)
		}
	}
	out, e := path.Set(d, modelPath(as), m)
	fail(e != api.OK, e)
	return out
}

// modelGroup keeps of each _id, and of each field, all that came.
func modelGroup(v api.Value, docs []api.Value, o *modelOut) {
	var ids []api.Value
	var came [][][]api.Value
	bytes := 0
	for _, d := range docs {
		id := modelEval(v.Doc[0].Value, d)
		bytes += value.Size(id)
		fail(bytes > 4194304, api.ErrPipeMany)
		id = modelNull(id)
		at := slices.IndexFunc(ids, func(x api.Value) bool { return value.Compare(x, id) == 0 })
		if at < 0 {
			at = len(ids)
			ids, came = append(ids, id), append(came, make([][]api.Value, len(v.Doc)))
		}
		for i, f := range v.Doc[1:] {
			x := modelEval(f.Value.Doc[0].Value, d)
			bytes += value.Size(x)
			fail(bytes > 4194304, api.ErrPipeMany)
			came[at][i] = append(came[at][i], x)
			modelGathered(f.Value.Doc[0].Name, came[at][i])
		}
	}
	for at, id := range ids {
		d := op("_id", id)
		for i, f := range v.Doc[1:] {
			d.Doc = append(d.Doc, of(f.Name, modelGathered(f.Value.Doc[0].Name, came[at][i])))
		}
		o.make(d)
	}
}

func modelGathered(name string, l []api.Value) api.Value {
	there, something := list(), list()
	for _, x := range l {
		if x.Kind != 0 {
			there.List = append(there.List, x)
		}
		if x.Kind != 0 && x.Kind != api.KindNull {
			something.List = append(something.List, x)
		}
	}
	switch name {
	case "$sum", "$avg":
		return modelSum(name, something.List)
	case "$min", "$max":
		return modelExtreme(name, something.List)
	case "$first":
		return modelNull(l[0])
	case "$last":
		return modelNull(l[len(l)-1])
	case "$push":
		return there
	}
	out := list()
	for _, x := range there.List {
		if !slices.ContainsFunc(out.List, func(y api.Value) bool { return value.Compare(x, y) == 0 }) {
			out.List = append(out.List, x)
		}
	}
	return out
}

func modelSum(name string, l []api.Value) api.Value {
	sum := new(big.Int)
	for _, x := range l {
		fail(x.Kind != api.KindInt, api.ErrPipeKind)
		sum.Add(sum, big.NewInt(int64(x.Int)))
		fail(!sum.IsInt64(), api.ErrExprOver)
	}
	if name == "$sum" {
		return num(int(sum.Int64()))
	}
	if len(l) == 0 {
		return null()
	}
	return num(int(new(big.Int).Quo(sum, big.NewInt(int64(len(l)))).Int64()))
}

func modelExtreme(name string, l []api.Value) api.Value {
	if len(l) == 0 {
		return null()
	}
	out := l[0]
	for _, x := range l {
		c := value.Compare(x, out)
		if name == "$min" && c < 0 || name == "$max" && c > 0 {
			out = x
		}
	}
	return out
}

// TestModelParse: Parse tells what the model tells, of pipelines of many kinds, most of them wrong somewhere.
func TestModelParse(t *testing.T) {
	m := newMaker(1)
	seen := map[api.Errno]int{}
	for range 40000 {
		v := m.pipeline()
		if m.below(2) == 0 {
			v = m.spoilt(v)
		}
		want := modelParse(v)
		seen[want]++
		p, e := pipe.Parse(v)
		if e != want || (e == api.OK) != (p != nil) {
			t.Fatalf("%s: %d, want %d", show(v), e, want)
		}
		if p == nil {
			continue
		}
		f := api.Value{}
		if len(v.List) > 0 && v.List[0].Doc[0].Name == "$match" {
			f = v.List[0].Doc[0].Value
		}
		if !same(p.Filter(), f) {
			t.Fatalf("%s: %s", show(v), show(p.Filter()))
		}
	}
	for _, e := range []api.Errno{api.OK, form, api.ErrExprForm, api.ErrFilterForm, api.ErrFilterOp, api.ErrValueKind, api.ErrValueName} {
		if seen[e] < 100 {
			t.Error("too few", e, seen[e])
		}
	}
}

// TestModelRun: Run tells what the model tells.
func TestModelRun(t *testing.T) {
	m := newMaker(2)
	seen, done, made := map[api.Errno]int{}, map[string]int{}, 0
	for range 40000 {
		v, docs, o := m.pipeline(), m.docs(), m.others()
		p, e := pipe.Parse(v)
		if e != api.OK {
			continue
		}
		want, wantE := modelRun(v, docs, o.tell)
		seen[wantE]++
		got, e := p.Run(docs, o.tell)
		wantDocs(t, got, e, want, wantE, v, list(docs...), list(o["o"]...), list(o["p"]...))
		if t.Failed() {
			return
		}
		if wantE == api.OK {
			made += len(want)
			for _, s := range v.List {
				done[s.Doc[0].Name]++
			}
		}
	}
	for _, e := range []api.Errno{api.OK, api.ErrPipeKind, api.ErrBlocked, api.ErrPad, api.ErrExprKind, api.ErrExprOver, api.ErrExprZero, api.ErrValueKind, api.ErrValueName} {
		if seen[e] < 30 {
			t.Error("too few", e, seen[e])
		}
	}
	for _, name := range strings.Fields(stageNames) {
		if done[name] < 1000 {
			t.Error("too few", name, done[name])
		}
	}
	if made < 30000 {
		t.Error("too few", made)
	}
}

package pipe

import (
	"slices"

	"coffret/api"
	"coffret/expr"
	"coffret/path"
)

func readProject(v api.Value) (stage, api.Errno) {
	if !isFields(v, api.MaxConds) {
		return nil, api.ErrPipeForm
	}
	p := project{names: map[string]struct{}{}, stay: slices.ContainsFunc(v.Doc, takesIn)}
	if p.stay {
		p.names[idName] = struct{}{}
	}
	for _, f := range v.Doc {
		if !isPart(f.Name) {
			return nil, api.ErrPipeForm
		}
		if e := p.read(f); e != api.OK {
			return nil, e
		}
	}
	return each(p.of), api.OK
}

// takesIn tells whether a field of `$project` says that not all stays that is not named.
func takesIn(f api.Field) bool {
	return f.Name != idName && !isNumber(f.Value, 0)
}

// read reads what `$project` says of one name.
func (p *project) read(f api.Field) api.Errno {
	delete(p.names, f.Name) // `_id` is among them as long as nothing is said of it
	switch {
	case isNumber(f.Value, 0) && !p.stay, isNumber(f.Value, 1) && p.stay:
		p.names[f.Name] = struct{}{}
	case isNumber(f.Value, 0), isNumber(f.Value, 1):
	default:
		by, e := expr.Parse(f.Value)
		if e != api.OK {
			return e
		}
		if p.stay {
			p.added = append(p.added, reckoned{f.Name, by})
		}
	}
	return api.OK
}

func readSet(v api.Value) (stage, api.Errno) {
	if !isFields(v, api.MaxConds) {
		return nil, api.ErrPipeForm
	}
	var l set
	for _, f := range v.Doc {
		parts, e := path.Split(f.Name)
		if e != api.OK {
			return nil, api.ErrPipeForm
		}
		by, e := expr.Parse(f.Value)
		if e != api.OK {
			return nil, e
		}
		l = append(l, placed{parts, by})
	}
	return each(l.of), api.OK
}

func readGroup(v api.Value) (stage, api.Errno) {
	if !isFields(v, api.MaxConds) || v.Doc[0].Name != idName {
		return nil, api.ErrPipeForm
	}
	id, e := expr.Parse(v.Doc[0].Value)
	if e != api.OK {
		return nil, e
	}
	g := group{id: id}
	for _, f := range v.Doc[1:] {
		x, e := readGathered(f)
		if e != api.OK {
			return nil, e
		}
		g.fields = append(g.fields, x)
	}
	return g, api.OK
}

// readGathered is a field of `$group` but the first one.
func readGathered(f api.Field) (gathered, api.Errno) {
	if !isPart(f.Name) || !isFields(f.Value, 1) {
		return gathered{}, api.ErrPipeForm
	}
	start := gathererOf(f.Value.Doc[0].Name)
	if start == nil {
		return gathered{}, api.ErrPipeForm
	}
	by, e := expr.Parse(f.Value.Doc[0].Value)
	return gathered{reckoned{f.Name, by}, start}, e
}

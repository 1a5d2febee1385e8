package pipe

import (
	"coffret/api"
	"coffret/path"
	"coffret/value"
)

// readUnwind reads a path, or a document of it and whether what has no elements is kept.
func readUnwind(v api.Value) (stage, api.Errno) {
	keep := false
	if v.Kind == api.KindDoc {
		says, _ := value.Get(v, "keep")
		if len(v.Doc) != 2 || says.Kind != api.KindBool {
			return nil, api.ErrPipeForm
		}
		keep = says.Int == 1
		v, _ = value.Get(v, "path")
	}
	parts, is := pathOf(v)
	if !is {
		return nil, api.ErrPipeForm
	}
	return each(unwind{parts, keep}.of), api.OK
}

// pathOf are the parts of a text that is a path.
func pathOf(v api.Value) ([]string, bool) {
	parts, e := path.Split(v.Text)
	return parts, e == api.OK && v.Kind == api.KindText
}

func readLookup(v api.Value) (stage, api.Errno) {
	from, _ := value.Get(v, "from")
	if from.Kind != api.KindText || len(v.Doc) != 4 {
		return nil, api.ErrPipeForm
	}
	l := lookup{from: from.Text}
	for _, f := range v.Doc {
		parts, is := pathOf(f.Value)
		switch f.Name {
		case "from":
			continue
		case "local":
			l.local = parts
		case "foreign":
			l.foreign = parts
		case "as":
			l.as = parts
		default:
			is = false
		}
		if !is {
			return nil, api.ErrPipeForm
		}
	}
	return l, api.OK
}

func readUnion(v api.Value) (stage, api.Errno) {
	if v.Kind != api.KindText {
		return nil, api.ErrPipeForm
	}
	return union(v.Text), api.OK
}

func readCount(v api.Value) (stage, api.Errno) {
	if v.Kind != api.KindText || !isPart(v.Text) {
		return nil, api.ErrPipeForm
	}
	return count(v.Text), api.OK
}

package pipe

import (
	"coffret/api"
	"coffret/expr"
	"coffret/filter"
	"coffret/path"
	"coffret/value"
)

// The names of which not only where they stand is to be known.
const (
	idName   = "_id"
	textName = "$text"
)

// readStage is the stage that a document is; v is right, and kept.
func readStage(v api.Value, isFirst bool) (stage, api.Errno) {
	if v.Kind != api.KindDoc || len(v.Doc) != 1 {
		return nil, api.ErrPipeForm
	}
	name, takes := v.Doc[0].Name, v.Doc[0].Value
	if name == "$match" {
		return readMatch(takes, isFirst)
	}
	read := readerOf(name)
	if read == nil {
		return nil, api.ErrPipeForm
	}
	return read(takes)
}

// readerOf reads what a stage of that name takes; nil: there is none.
func readerOf(name string) func(v api.Value) (stage, api.Errno) {
	switch name {
	case "$project":
		return readProject
	case "$set":
		return readSet
	case "$group":
		return readGroup
	case "$sort":
		return readSort
	case "$limit":
		return readLimit
	case "$skip":
		return readSkip
	case "$unwind":
		return readUnwind
	case "$lookup":
		return readLookup
	case "$union":
		return readUnion
	case "$count":
		return readCount
	case "$replace":
		return readReplace
	}
	return nil
}

func readMatch(v api.Value, isFirst bool) (stage, api.Errno) {
	f, e := filter.Parse(v)
	if e != api.OK {
		return nil, e
	}
	if _, worded := value.Get(v, textName); worded && !isFirst {
		return nil, api.ErrPipeForm
	}
	return match{f.Match, v}, api.OK
}

// isFields tells whether a value is a document of as many fields as a stage may take.
func isFields(v api.Value, most int) bool {
	return v.Kind == api.KindDoc && len(v.Doc) > 0 && len(v.Doc) <= most
}

// isPart tells whether a text is a path's part.
func isPart(s string) bool {
	parts, e := path.Split(s)
	return e == api.OK && len(parts) == 1
}

// isNumber tells whether a value is that number.
func isNumber(v api.Value, n int) bool {
	return v.Kind == api.KindInt && v.Int == n
}

func readSort(v api.Value) (stage, api.Errno) {
	if !isFields(v, api.MaxFields) {
		return nil, api.ErrPipeForm
	}
	var l sort
	for _, f := range v.Doc {
		parts, e := path.Split(f.Name)
		if e != api.OK || !isNumber(f.Value, 1) && !isNumber(f.Value, -1) {
			return nil, api.ErrPipeForm
		}
		l = append(l, sorting{parts, -f.Value.Int})
	}
	return l, api.OK
}

func readLimit(v api.Value) (stage, api.Errno) {
	if v.Kind != api.KindInt || v.Int < 0 {
		return nil, api.ErrPipeForm
	}
	return limit(v.Int), api.OK
}

func readSkip(v api.Value) (stage, api.Errno) {
	if v.Kind != api.KindInt || v.Int < 0 {
		return nil, api.ErrPipeForm
	}
	return skip(v.Int), api.OK
}

func readReplace(v api.Value) (stage, api.Errno) {
	by, e := expr.Parse(v)
	if e != api.OK {
		return nil, e
	}
	return replace(by), api.OK
}

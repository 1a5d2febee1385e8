package update

import (
	"strings"

	"coffret/api"
)

// The operators of which not only what they do is to be known.
const (
	renameName   = "$rename"
	onInsertName = "$setOnInsert"
)

// isReplacement tells whether a document is read as one; else it is read as operators.
func isReplacement(v api.Value) bool {
	return len(v.Doc) == 0 || !strings.HasPrefix(v.Doc[0].Name, "$")
}

func readReplacement(v api.Value) (*Update, api.Errno) {
	for _, f := range v.Doc {
		if strings.HasPrefix(f.Name, "$") {
			return nil, api.ErrUpdateForm
		}
	}
	return &Update{replacement: v}, api.OK
}

// change is what an operator does at a way.
type change struct {
	way      way
	do       action
	onInsert bool // just at an insert
}

// reader reads operators.
type reader struct {
	choices map[string]choice
	changes []change
	ways    []string // all that are written
}

func readOperators(v api.Value, choices map[string]choice) (*Update, api.Errno) {
	r := reader{choices: choices}
	known := operators()
	for _, f := range v.Doc {
		reads, there := known.named(f.Name)
		if !there {
			return nil, api.ErrUpdateOp
		}
		if f.Value.Kind != api.KindDoc {
			return nil, api.ErrUpdateForm
		}
		for _, x := range f.Value.Doc {
			if e := r.read(f.Name, reads, x); e != api.OK {
				return nil, e
			}
		}
	}
	if inConflict(r.ways) {
		return nil, api.ErrUpdateConflict
	}
	return &Update{changes: r.changes}, api.OK
}

// read reads a way, and what the operator of that name takes there.
func (r *reader) read(name string, reads operator, x api.Field) api.Errno {
	w, e := readWay(x.Name, r.choices)
	if e != api.OK {
		return e
	}
	if w[0].part == idName {
		return api.ErrUpdateId
	}
	do, e := reads(x.Name, x.Value)
	if e != api.OK {
		return e
	}
	r.changes = append(r.changes, change{w, do, name == onInsertName})
	r.ways = append(r.ways, x.Name)
	if name == renameName {
		r.ways = append(r.ways, x.Value.Text)
	}
	return api.OK
}

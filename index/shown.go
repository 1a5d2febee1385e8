package index

import (
	"iter"

	"coffret/api"
	"coffret/path"
	"coffret/shown"
)

// milliseconds are those of a second.
const milliseconds = 1000

// shownBy goes through what a field's path, which is one, shows in a document.
func shownBy(f api.IndexField, doc api.Value) iter.Seq[api.Value] {
	parts, _ := path.Split(f.Path)
	return shown.In(doc, parts)
}

// texts is the list of the texts that the fields' paths show.
func texts(fields []api.IndexField, doc api.Value) api.Value {
	all := api.Value{Kind: api.KindList}
	for _, f := range fields {
		for v := range shownBy(f, doc) {
			if v.Kind == api.KindText {
				all.List = append(all.List, v)
			}
		}
	}
	return all
}

// earliest is the first date among values, and whether there is one.
func earliest(l iter.Seq[api.Value]) (int, bool) {
	date, is := 0, false
	for v := range l {
		if v.Kind == api.KindDate && (!is || v.Int < date) {
			date, is = v.Int, true
		}
	}
	return date, is
}

package index

import (
	"iter"
	"slices"

	"coffret/api"
	"coffret/keyenc"
	"coffret/value"
	"coffret/words"
)

// column is what may stand in one place of a document's keys: keys of their own, no two the same.
type column [][]byte

// columnsOf are the columns of which a document's keys in an index are made.
func columnsOf(x api.Index, doc api.Value) ([]column, api.Errno) {
	if x.Text {
		c, e := wordColumn(x.Fields, doc)
		return []column{c}, e
	}
	rows, e := choices(x.Fields, doc)
	if e != api.OK {
		return nil, e
	}
	var l []column
	for i, row := range rows {
		c, e := valueColumn(row, x.Fields[i].Desc)
		if e != api.OK {
			return nil, e
		}
		l = append(l, c)
	}
	return l, api.OK
}

// choices are the unlike values that each field's path shows; all are there before the first key is made, for too many keys are told ahead of a long one.
func choices(fields []api.IndexField, doc api.Value) ([][]api.Value, api.Errno) {
	var rows [][]api.Value
	many := 1
	for _, f := range fields {
		row := unlike(shownBy(f, doc))
		many *= len(row)
		if many > api.MaxKeys {
			return nil, api.ErrIndexMany
		}
		rows = append(rows, row)
	}
	return rows, api.OK
}

// unlike are values in their order, one for those that are alike.
func unlike(l iter.Seq[api.Value]) []api.Value {
	alike := func(a, b api.Value) bool { return value.Compare(a, b) == 0 }
	return slices.CompactFunc(slices.SortedFunc(l, value.Compare), alike)
}

func valueColumn(row []api.Value, desc bool) (column, api.Errno) {
	var c column
	for _, v := range row {
		key, e := keyenc.Key([]api.Value{v}, []bool{desc})
		if e != api.OK {
			return nil, e
		}
		c = append(c, key)
	}
	return c, api.OK
}

// wordColumn has the words of all texts that the fields' paths show, each with how often it is there.
func wordColumn(fields []api.IndexField, doc api.Value) (column, api.Errno) {
	terms, e := words.Terms(texts(fields, doc))
	if e != api.OK {
		return nil, e
	}
	var c column
	for _, t := range terms {
		word, count := api.Value{Kind: api.KindText, Text: t.Word}, api.Value{Kind: api.KindInt, Int: t.Count}
		key, e := keyenc.Key([]api.Value{word, count}, []bool{false, false})
		if e != api.OK {
			return nil, e
		}
		c = append(c, key)
	}
	return c, api.OK
}

// keysOf goes through the keys that have one of each column's, one behind another.
func keysOf(columns []column) iter.Seq[[]byte] {
	var keys iter.Seq[[]byte] = func(tell func([]byte) bool) { tell(nil) }
	for _, c := range columns {
		keys = c.behind(keys)
	}
	return keys
}

// behind goes through the keys that come about where each of the column's is put behind each of these.
func (c column) behind(keys iter.Seq[[]byte]) iter.Seq[[]byte] {
	return func(tell func([]byte) bool) {
		for key := range keys {
			whole := key[:len(key):len(key)] // no room is left behind it, so that each key that is made of it is new memory
			for _, more := range c {
				if !tell(append(whole, more...)) {
					return
				}
			}
		}
	}
}

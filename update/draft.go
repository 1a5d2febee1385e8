package update

import (
	"slices"
	"strconv"

	"coffret/api"
	"coffret/filter"
	"coffret/path"
	"coffret/value"
)

// draft is a document on its way to another one. It is changed where it stands: to make it anew at each of many places would take as long as it is, each time.
type draft struct {
	doc   api.Value
	size  int            // of doc, as value.Size tells it
	first api.Value      // the document as it was
	by    *filter.Filter // that meant it
}

func newDraft(doc api.Value, f *filter.Filter) *draft {
	return &draft{value.Clone(doc), value.Size(doc), doc, f}
}

// change does a change at all ends of its way.
func (d *draft) change(c change) api.Errno {
	var ends [][]string
	for end, e := range d.ends(c.way) {
		if e != api.OK {
			return e
		}
		ends = append(ends, end)
	}
	for _, end := range ends {
		if e := c.do(d, end); e != api.OK {
			return e
		}
		if d.size > api.MaxDoc {
			return api.ErrBig
		}
	}
	return api.OK
}

// at is what stands there; nil: nothing does.
func (d *draft) at(parts []string) *api.Value {
	v, rest := deepest(&d.doc, parts)
	if len(rest) > 0 {
		return nil
	}
	return v
}

// set is path.Set of a copy of x.
func (d *draft) set(parts []string, x api.Value) api.Errno {
	at, rest := deepest(&d.doc, parts)
	v, e := with(*at, rest, x)
	if e == api.OK {
		d.put(at, v)
	}
	return e
}

// unset is path.Unset: all fields of that name are taken out, an element becomes null.
func (d *draft) unset(parts []string) {
	last := len(parts) - 1
	at, above := d.at(parts), d.at(parts[:last])
	switch {
	case at == nil:
	case above.Kind == api.KindList:
		d.put(at, api.Value{Kind: api.KindNull})
	default:
		left := *above
		left.Doc = slices.DeleteFunc(slices.Clone(left.Doc), func(f api.Field) bool { return f.Name == parts[last] })
		d.put(above, left)
	}
}

// put puts a value in the place of one that stands in the document.
func (d *draft) put(at *api.Value, v api.Value) {
	if d.size > api.MaxDoc { // by how much is not known
		*at = v
		d.size = value.Size(d.doc)
		return
	}
	d.size += value.Size(v) - value.Size(*at)
	*at = v
}

// with is v with x where the parts lead to, of which the first leads to nothing. To a document a field is added where it stands, be there many others.
func with(v api.Value, parts []string, x api.Value) (api.Value, api.Errno) {
	if len(parts) == 0 {
		return value.Clone(x), api.OK
	}
	if v.Kind != api.KindDoc {
		return path.Set(v, parts, x)
	}
	one, e := path.Set(bare(), parts, x)
	v.Doc = append(v.Doc, one.Doc...)
	return v, e
}

// deepest is what stands deepest on a way, and the parts that lead on from there, to nothing.
func deepest(v *api.Value, parts []string) (*api.Value, []string) {
	for len(parts) > 0 {
		next := below(v, parts[0])
		if next == nil {
			break
		}
		v, parts = next, parts[1:]
	}
	return v, parts
}

// below is what stands in a value where a part leads to, as path.At tells it; nil: nothing does.
func below(v *api.Value, part string) *api.Value {
	switch v.Kind {
	case api.KindDoc:
		if n := slices.IndexFunc(v.Doc, func(f api.Field) bool { return f.Name == part }); n >= 0 {
			return &v.Doc[n].Value
		}
	case api.KindList:
		if n, err := strconv.Atoi(part); err == nil && n >= 0 && n < len(v.List) && strconv.Itoa(n) == part {
			return &v.List[n]
		}
	}
	return nil
}

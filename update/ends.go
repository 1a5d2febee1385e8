package update

import (
	"iter"
	"slices"
	"strconv"

	"coffret/api"
)

// ends are the ends of a way, from the front, each as the parts of a path; an error is the last of them.
func (d *draft) ends(w way) iter.Seq2[[]string, api.Errno] {
	return func(yield func([]string, api.Errno) bool) {
		d.follow(w, nil, &d.doc, yield)
	}
}

// follow goes on along a way from what stands behind its first parts, which led to these; nil: nothing does. False: there is no more to be met.
func (d *draft) follow(w way, ahead []string, v *api.Value, yield func([]string, api.Errno) bool) bool {
	if len(ahead) == len(w) {
		return yield(ahead, api.OK)
	}
	parts, e := d.lead(w, len(ahead), v)
	if e != api.OK {
		yield(nil, e)
		return false
	}
	for _, part := range parts {
		var next *api.Value
		if v != nil {
			next = below(v, part)
		}
		if !d.follow(w, append(slices.Clip(ahead), part), next, yield) {
			return false
		}
	}
	return true
}

// lead are the parts to which a step leads from what stands ahead of it.
func (d *draft) lead(w way, at int, v *api.Value) ([]string, api.Errno) {
	s := w[at]
	switch {
	case s.part == matched:
		return d.position(w[:at].text())
	case s.chosen == nil:
		return []string{s.part}, api.OK
	case v == nil || v.Kind != api.KindList:
		return nil, api.ErrBlocked
	}
	return places(v.List, s.chosen)
}

// position is the place in a list of the first element that matched.
func (d *draft) position(list string) ([]string, api.Errno) {
	if d.by == nil {
		return nil, api.ErrUpdatePosition
	}
	n := d.by.Position(d.first, list)
	if n < 0 {
		return nil, api.ErrUpdatePosition
	}
	return []string{strconv.Itoa(n)}, api.OK
}

// places are those of the elements that are meant.
func places(l []api.Value, chosen choice) ([]string, api.Errno) {
	var out []string
	for i, x := range l {
		is, e := chosen(x)
		if e != api.OK {
			return nil, e
		}
		if is {
			out = append(out, strconv.Itoa(i))
		}
	}
	return out, api.OK
}

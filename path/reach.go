package path

import (
	"iter"

	"coffret/api"
	"coffret/value"
)

// met are the values to which parts lead, in the order in which they are met.
func met(v api.Value, parts []string) iter.Seq[api.Value] {
	return func(yield func(api.Value) bool) {
		if !tooMany(parts) {
			meet(v, parts, yield)
		}
	}
}

// meet yields the values to which parts lead; false: no more are wanted.
func meet(v api.Value, parts []string, yield func(api.Value) bool) bool {
	if len(parts) == 0 {
		return yield(v)
	}
	at := stand(v, parts[0])
	if v.Kind == api.KindList {
		if !meetEach(v.List, parts, yield) {
			return false
		}
		return at < 0 || meet(v.List[at], parts[1:], yield)
	}
	if at < 0 {
		return yield(api.Value{})
	}
	return meet(v.Doc[at].Value, parts[1:], yield)
}

// meetEach yields the values to which parts lead from each document of a list; false: no more are wanted.
func meetEach(l []api.Value, parts []string, yield func(api.Value) bool) bool {
	for _, x := range l {
		if x.Kind == api.KindDoc && !meet(x, parts, yield) {
			return false
		}
	}
	return true
}

// pick is Pick of parts that are not too many.
func pick(v api.Value, parts []string) api.Value {
	if len(parts) == 0 {
		return value.Clone(v)
	}
	switch v.Kind {
	case api.KindDoc:
		if at := stand(v, parts[0]); at >= 0 {
			return pick(v.Doc[at].Value, parts[1:])
		}
	case api.KindList:
		return pickEach(v.List, parts)
	}
	return api.Value{}
}

// pickEach is the list of what is picked from the documents and lists of a list.
func pickEach(l []api.Value, parts []string) api.Value {
	out := api.Value{Kind: api.KindList}
	for _, x := range l {
		if x.Kind != api.KindDoc && x.Kind != api.KindList {
			continue
		}
		if got := pick(x, parts); !missing(got) {
			out.List = append(out.List, got)
		}
	}
	return out
}

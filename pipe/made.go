package pipe

import (
	"coffret/api"
	"coffret/value"
)

// made are documents, as they come about, and how many bytes they have.
type made struct {
	docs  []api.Value
	bytes int
}

// take takes in what a stage made of a document, unless it may not be.
func (m *made) take(d api.Value) api.Errno {
	if e := value.Right(d); e != api.OK {
		return e
	}
	return m.count(d)
}

// count takes in a document, unless there are too many by then.
func (m *made) count(d api.Value) api.Errno {
	m.docs = append(m.docs, d)
	m.bytes += value.Size(d)
	if len(m.docs) > api.MaxPipe || m.bytes > api.MaxHeap {
		return api.ErrPipeMany
	}
	return api.OK
}

// ask is what is wrong with documents that come from without.
func ask(docs []api.Value) api.Errno {
	for _, d := range docs {
		if d.Kind != api.KindDoc {
			return api.ErrPipeKind
		}
	}
	m := made{}
	for _, d := range docs {
		if e := m.count(d); e != api.OK {
			return e
		}
	}
	return api.OK
}

// source tells the documents of another collection.
type source func(name string) ([]api.Value, api.Errno)

// sourceOf is what other tells, asked. It is copied: other may tell what comes next in the same memory.
func sourceOf(other func(name string) []api.Value) source {
	return func(name string) ([]api.Value, api.Errno) {
		if other == nil {
			return nil, api.OK
		}
		docs := other(name)
		if e := ask(docs); e != api.OK {
			return nil, e
		}
		return cloned(docs), api.OK
	}
}

func cloned(l []api.Value) []api.Value {
	out := make([]api.Value, len(l))
	for i, v := range l {
		out[i] = value.Clone(v)
	}
	return out
}

// each is a stage that makes documents of every document alone.
type each func(d api.Value, out *made) api.Errno

func (of each) run(docs []api.Value, _ source) ([]api.Value, api.Errno) {
	out := made{}
	for _, d := range docs {
		if e := of(d, &out); e != api.OK {
			return nil, e
		}
	}
	return out.docs, api.OK
}

package expr

import (
	"coffret/api"
	"coffret/value"
)

// The bytes of chapter 1 that stand ahead of others.
const (
	headBytes = 5 // of a text, a list, a document
	partBytes = 2 // of an element, a field
)

// listMaker makes a list, element by element. How big it is already is kept: to ask for it each time would take as long as the list is.
type listMaker struct {
	list  []api.Value
	bytes int // of all elements
}

// newList makes a list with room for so many elements, as far as they fit: to grow a long one bit by bit takes several times as long.
func newList(room int) *listMaker {
	const most = api.MaxDoc / (partBytes + 1) // elements have a digit each at least
	return &listMaker{list: make([]api.Value, 0, min(room, most))}
}

// put puts an element behind the others; the list may not be used if it is too big then.
func (m *listMaker) put(v api.Value) api.Errno {
	m.bytes += partBytes + digits(len(m.list)) + value.Size(v)
	m.list = append(m.list, v)
	return tooBig(headBytes + m.bytes)
}

func (m *listMaker) value() api.Value {
	return api.Value{Kind: api.KindList, List: m.list}
}

// docMaker makes a document, field by field.
type docMaker struct {
	fields []api.Field
	places map[string]int
	bytes  int // of all fields
}

// put gives the field of that name a value; the document may not be used if it is too big then.
func (m *docMaker) put(name string, v api.Value) api.Errno {
	if m.places == nil {
		m.places = map[string]int{}
	}
	at, there := m.places[name]
	if there {
		m.bytes += value.Size(v) - value.Size(m.fields[at].Value)
		m.fields[at].Value = v
	} else {
		m.bytes += partBytes + len(name) + value.Size(v)
		m.places[name] = len(m.fields)
		m.fields = append(m.fields, api.Field{Name: name, Value: v})
	}
	return tooBig(headBytes + m.bytes)
}

func (m *docMaker) value() api.Value {
	return api.Value{Kind: api.KindDoc, Doc: m.fields}
}

// tooBig is ErrBig of more bytes than there may be.
func tooBig(bytes int) api.Errno {
	if bytes > api.MaxDoc {
		return api.ErrBig
	}
	return api.OK
}

// digits is how many digits a place has.
func digits(n int) int {
	many := 1
	for n >= 10 {
		n /= 10
		many++
	}
	return many
}

func null() api.Value { return api.Value{Kind: api.KindNull} }

func number(n int) api.Value { return api.Value{Kind: api.KindInt, Int: n} }

func date(ms int) api.Value { return api.Value{Kind: api.KindDate, Int: ms} }

func text(s string) api.Value { return api.Value{Kind: api.KindText, Text: s} }

func truth(is bool) api.Value {
	v := api.Value{Kind: api.KindBool}
	if is {
		v.Int = 1
	}
	return v
}

// missing tells whether a value stands for none.
func missing(v api.Value) bool {
	return v.Kind == 0 && v.Int == 0 && v.Text == "" && len(v.List) == 0 && len(v.Doc) == 0
}

func nothing(v api.Value) bool {
	return v.Kind == api.KindNull || missing(v)
}

// orNull is v, but null if it is missing.
func orNull(v api.Value) api.Value {
	if missing(v) {
		return null()
	}
	return v
}

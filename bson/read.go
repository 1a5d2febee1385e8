package bson

import (
	"strconv"
	"unicode/utf8"

	"coffret/api"
)

// reader reads values, and stops at the first fault.
type reader struct {
	cursor
	deep int // how many documents and lists are open
}

// read is the document, and where it ends; or the fault at which the reading stopped.
func (r *reader) read() (v api.Value, end int, f api.Fault) {
	defer func() {
		switch x := recover().(type) {
		case nil:
		case api.Fault:
			v, end, f = api.Value{}, 0, x
		default:
			panic(x)
		}
	}()
	v = r.document()
	return v, r.at, api.Fault{}
}

func (r *reader) document() api.Value {
	outer := r.open()
	v := api.Value{Kind: api.KindDoc}
	ahead := map[string]struct{}{}
	for kind := r.kind(); kind != 0; kind = r.kind() {
		name := r.newName(ahead)
		ahead[name] = struct{}{}
		v.Doc = append(v.Doc, api.Field{Name: name, Value: r.value(kind)})
	}
	r.leave(outer)
	return v
}

func (r *reader) list() api.Value {
	outer := r.open()
	v := api.Value{Kind: api.KindList}
	for kind := r.kind(); kind != 0; kind = r.kind() {
		r.placeName(len(v.List))
		v.List = append(v.List, r.value(kind))
	}
	r.leave(outer)
	return v
}

// open goes into a document or list: its last byte ends the room now. It tells where the room ended ahead of that.
func (r *reader) open() int {
	first, outer := r.at, r.room
	if r.deep == api.MaxDepth {
		stop(api.ErrBsonDeep, first)
	}
	many := r.number(lengthBytes)
	if many < leastBytes || many > api.MaxDoc {
		stop(api.ErrBsonLength, first)
	}
	if many > outer-first {
		stop(api.ErrBsonShort, first)
	}
	r.deep++
	r.room = first + many - 1
	return outer
}

// leave goes past the last byte, and gives back the room behind it.
func (r *reader) leave(outer int) {
	r.deep--
	r.room = outer
	r.at++
}

// kind is what the next field's byte tells, which is passed; 0 at the last byte, which is not.
func (r *reader) kind() int {
	code, last := r.bytes[r.at], r.at == r.room
	if last != (code == 0) {
		stop(api.ErrBsonEnd, r.at)
	}
	if last {
		return 0
	}
	kind := kindOf(code)
	if kind == 0 {
		stop(api.ErrBsonKind, r.at)
	}
	r.at++
	return kind
}

// newName is the name of a document's field, which none of those ahead has.
func (r *reader) newName(ahead map[string]struct{}) string {
	first := r.at
	name, ends := r.upToZero()
	_, twice := ahead[name]
	if !ends || twice || name == "" || len(name) > api.MaxName || !utf8.ValidString(name) {
		stop(api.ErrBsonName, first)
	}
	return name
}

// placeName passes the name of a list's element, which is its place in digits.
func (r *reader) placeName(place int) {
	first := r.at
	if name, ends := r.upToZero(); !ends || name != strconv.Itoa(place) {
		stop(api.ErrBsonName, first)
	}
}

func (r *reader) value(kind int) api.Value {
	v := api.Value{Kind: kind}
	switch kind {
	case api.KindDoc:
		return r.document()
	case api.KindList:
		return r.list()
	case api.KindText:
		v.Text = r.text()
	case api.KindBytes:
		v.Text = r.blob()
	case api.KindId:
		v.Text = r.take(idBytes)
	case api.KindBool:
		v.Int = r.flag()
	case api.KindInt, api.KindDate:
		v.Int = r.number(numberBytes)
	}
	return v
}

func (r *reader) text() string {
	first := r.at
	many := r.number(lengthBytes)
	if many == 0 {
		stop(api.ErrBsonLength, first)
	}
	if many > r.room-r.at {
		stop(api.ErrBsonShort, first)
	}
	s := r.take(many)
	if s[many-1] != 0 || !utf8.ValidString(s[:many-1]) {
		stop(api.ErrBsonText, first+lengthBytes)
	}
	return s[:many-1]
}

func (r *reader) blob() string {
	first := r.at
	r.need(lengthBytes + 1)
	many := r.number(lengthBytes)
	zero := r.number(1)
	if many > r.room-r.at {
		stop(api.ErrBsonShort, first)
	}
	if zero != 0 {
		stop(api.ErrBsonText, first+lengthBytes)
	}
	return r.take(many)
}

func (r *reader) flag() int {
	first := r.at
	n := r.number(1)
	if n > 1 {
		stop(api.ErrBsonText, first)
	}
	return n
}

package keyenc

import (
	"coffret/api"
	"coffret/value"
)

// source tells a key's next byte, as it was ahead of being turned; -1 behind the last one.
type source func() int

// readRow is the row whose key these bytes are; false, if there is none.
func readRow(b []byte, desc []bool) ([]api.Value, bool) {
	at, falls := 0, false
	next := func() int {
		if at == len(b) {
			return -1
		}
		at++
		if falls {
			return int(highest - b[at-1])
		}
		return int(b[at-1])
	}
	l := make([]api.Value, 0, len(desc))
	for _, falls = range desc {
		v, ok := readValue(next)
		if !ok || value.Right(v) != api.OK {
			return nil, false
		}
		l = append(l, v)
	}
	if at < len(b) {
		return nil, false
	}
	return l, true
}

// readValue is the next value; false, if a part of it is none. Whether it is right is asked of the whole.
func readValue(next source) (api.Value, bool) {
	v, ok := api.Value{Kind: next()}, true
	switch v.Kind {
	case api.KindInt, api.KindDate:
		v.Int, ok = readNumber(next)
	case api.KindBool:
		v.Int = next()
	case api.KindText, api.KindBytes:
		v.Text, ok = readText(next)
	case api.KindId:
		v.Text, ok = readId(next)
	case api.KindList:
		v.List, ok = readParts(next, readValue)
	case api.KindDoc:
		v.Doc, ok = readParts(next, readField)
	}
	return v, ok
}

func readField(next source) (api.Field, bool) {
	name, ok := readText(next)
	if !ok {
		return api.Field{}, false
	}
	v, ok := readValue(next)
	return api.Field{Name: name, Value: v}, ok
}

// readParts are the parts of a list, or of a document, each read by one.
func readParts[T any](next source, one func(source) (T, bool)) ([]T, bool) {
	var l []T
	for {
		switch next() {
		case zero:
			return l, true
		case more:
		default:
			return nil, false
		}
		x, ok := one(next)
		if !ok {
			return nil, false
		}
		l = append(l, x)
	}
}

func readText(next source) (string, bool) {
	var s []byte
	for {
		c := next()
		if c < 0 {
			return "", false
		}
		if c == zero {
			switch next() {
			case zero:
				return string(s), true
			case highest:
			default:
				return "", false
			}
		}
		s = append(s, byte(c))
	}
}

func readNumber(next source) (int, bool) {
	var w wide
	if !fill(next, w[:]) {
		return 0, false
	}
	return w.number(), true
}

func readId(next source) (string, bool) {
	var id [12]byte
	if !fill(next, id[:]) {
		return "", false
	}
	return string(id[:]), true
}

// fill reads as many bytes as b has; false, if there are fewer.
func fill(next source, b []byte) bool {
	for i := range b {
		c := next()
		if c < 0 {
			return false
		}
		b[i] = byte(c)
	}
	return true
}

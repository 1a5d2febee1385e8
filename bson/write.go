package bson

import (
	"strconv"

	"coffret/api"
)

// appendDoc puts a document's bytes behind others; so do all these functions with what they are named after. What they are handed is right.
func appendDoc(out []byte, l []api.Field) []byte {
	first := len(out)
	out = appendNumber(out, 0, lengthBytes)
	for _, f := range l {
		out = appendField(out, f.Name, f.Value)
	}
	return closed(out, first)
}

func appendList(out []byte, l []api.Value) []byte {
	first := len(out)
	out = appendNumber(out, 0, lengthBytes)
	for i, x := range l {
		out = appendField(out, strconv.Itoa(i), x)
	}
	return closed(out, first)
}

// closed ends the document that begins at first, and writes its length, known only now, over the noughts at its front.
func closed(out []byte, first int) []byte {
	out = append(out, 0)
	appendNumber(out[:first], len(out)-first, lengthBytes)
	return out
}

func appendField(out []byte, name string, v api.Value) []byte {
	out = append(out, codes[v.Kind])
	out = append(out, name...)
	return appendValue(append(out, 0), v)
}

func appendValue(out []byte, v api.Value) []byte {
	switch v.Kind {
	case api.KindText:
		out = appendNumber(out, len(v.Text)+1, lengthBytes)
		return append(append(out, v.Text...), 0)
	case api.KindDoc:
		return appendDoc(out, v.Doc)
	case api.KindList:
		return appendList(out, v.List)
	case api.KindBytes:
		out = append(appendNumber(out, len(v.Text), lengthBytes), 0)
		return append(out, v.Text...)
	case api.KindId:
		return append(out, v.Text...)
	case api.KindBool:
		return append(out, byte(v.Int))
	case api.KindInt, api.KindDate:
		return appendNumber(out, v.Int, numberBytes)
	}
	return out
}

// appendNumber puts a number of so many bytes behind others, the lowest one first.
func appendNumber(out []byte, n, width int) []byte {
	for i := range width {
		out = append(out, byte(n>>(8*i)))
	}
	return out
}

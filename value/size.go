package value

import "coffret/api"

// The bytes of the table of chapter 1: of what has a fixed size, and of what stands ahead of other bytes.
const (
	numberBytes = 8
	idBytes     = 12
	boolBytes   = 1
	headBytes   = 5 // of a text, bytes, a document, a list
	partBytes   = 2 // of a field, an element
)

// Size is how many bytes a value has; MaxDoc + 1, if they are more than MaxDoc.
func Size(v api.Value) int {
	return min(sizeFrom(0, v), api.MaxDoc+1)
}

// sizeFrom is n and the bytes of v. It stops where that is above MaxDoc: what is too big is told as quickly as what is not.
func sizeFrom(n int, v api.Value) int {
	switch v.Kind {
	case api.KindInt, api.KindDate:
		return n + numberBytes
	case api.KindText, api.KindBytes:
		return n + headBytes + len(v.Text)
	case api.KindId:
		return n + idBytes
	case api.KindBool:
		return n + boolBytes
	case api.KindDoc:
		return fieldsFrom(n+headBytes, v.Doc)
	case api.KindList:
		return elementsFrom(n+headBytes, v.List)
	}
	return n
}

func fieldsFrom(n int, l []api.Field) int {
	for _, f := range l {
		if n > api.MaxDoc {
			break
		}
		n = sizeFrom(n+partBytes+len(f.Name), f.Value)
	}
	return n
}

func elementsFrom(n int, l []api.Value) int {
	for i, x := range l {
		if n > api.MaxDoc {
			break
		}
		n = sizeFrom(n+partBytes+digits(i), x)
	}
	return n
}

// digits is how many digits a place has.
func digits(n int) int {
	many := 1
	for n >= 10 {
		n /= 10
		many++
	}
	return many
}

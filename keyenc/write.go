package keyenc

import "coffret/api"

// appendRow puts a row's key behind other bytes; so do all these functions with what they are named after. What they are handed is right.
func appendRow(out []byte, l []api.Value, desc []bool) []byte {
	for i, v := range l {
		first := len(out)
		out = appendValue(out, v)
		if desc[i] {
			turn(out[first:])
		}
	}
	return out
}

// turn makes each byte stand behind those ahead of which it stood.
func turn(b []byte) {
	for i := range b {
		b[i] = highest - b[i]
	}
}

func appendValue(out []byte, v api.Value) []byte {
	out = append(out, byte(v.Kind))
	switch v.Kind {
	case api.KindInt, api.KindDate:
		w := widened(v.Int)
		return append(out, w[:]...)
	case api.KindBool:
		return append(out, byte(v.Int))
	case api.KindText, api.KindBytes:
		return appendText(out, v.Text)
	case api.KindId:
		return append(out, v.Text...)
	case api.KindList:
		return appendList(out, v.List)
	case api.KindDoc:
		return appendDoc(out, v.Doc)
	}
	return out
}

func appendText(out []byte, s string) []byte {
	for i := range len(s) {
		out = append(out, s[i])
		if s[i] == zero {
			out = append(out, highest)
		}
	}
	return append(out, zero, zero)
}

func appendList(out []byte, l []api.Value) []byte {
	for _, x := range l {
		out = appendValue(append(out, more), x)
	}
	return append(out, zero)
}

func appendDoc(out []byte, l []api.Field) []byte {
	for _, f := range l {
		out = appendText(append(out, more), f.Name)
		out = appendValue(out, f.Value)
	}
	return append(out, zero)
}

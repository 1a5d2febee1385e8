package expr

import (
	"strings"
	"unicode/utf8"

	"coffret/api"
)

func textOperator(name string) operator {
	switch name {
	case "$concat":
		return each(concat, texts)
	case "$lower":
		return just(lower, texts)
	case "$upper":
		return just(upper, texts)
	case "$length":
		return just(length, texts)
	case "$part":
		return just(part, texts, ints, ints)
	case "$find":
		return just(find, texts, texts)
	case "$split":
		return just(split, texts, texts)
	}
	return nil
}

func concat(l []api.Value) (api.Value, api.Errno) {
	var b strings.Builder
	for _, v := range l {
		if e := tooBig(headBytes + b.Len() + len(v.Text)); e != api.OK {
			return api.Value{}, e
		}
		b.WriteString(v.Text)
	}
	return text(b.String()), api.OK
}

func lower(l []api.Value) (api.Value, api.Errno) {
	return text(moved(l[0].Text, 'A', 'a')), api.OK
}

func upper(l []api.Value) (api.Value, api.Errno) {
	return text(moved(l[0].Text, 'a', 'A')), api.OK
}

// letters is how many there are from A to Z.
const letters = 26

// moved is a text in which the letters from one on are those from another one on. Bytes of other runes are none of these.
func moved(s string, from, to byte) string {
	b := []byte(s)
	for i, c := range b {
		if c >= from && c-from < letters {
			b[i] = c - from + to
		}
	}
	return string(b)
}

func length(l []api.Value) (api.Value, api.Errno) {
	return number(utf8.RuneCountInString(l[0].Text)), api.OK
}

func part(l []api.Value) (api.Value, api.Errno) {
	s := l[0].Text
	from, to := window(utf8.RuneCountInString(s), l[1].Int, l[2].Int)
	return text(s[offset(s, from):offset(s, to)]), api.OK
}

// offset is where the rune at a place begins; behind the last one: the end.
func offset(s string, place int) int {
	n := 0
	for i := range s {
		if n == place {
			return i
		}
		n++
	}
	return len(s)
}

func find(l []api.Value) (api.Value, api.Errno) {
	at := strings.Index(l[0].Text, l[1].Text)
	if at < 0 {
		return number(-1), api.OK
	}
	return number(utf8.RuneCountInString(l[0].Text[:at])), api.OK
}

func split(l []api.Value) (api.Value, api.Errno) {
	if l[1].Text == "" {
		return api.Value{}, api.ErrExprKind
	}
	out := newList(0)
	for piece := range strings.SplitSeq(l[0].Text, l[1].Text) {
		if e := out.put(text(piece)); e != api.OK {
			return api.Value{}, e
		}
	}
	return out.value(), api.OK
}

package expr

import (
	"strconv"
	"strings"

	"coffret/api"
)

func kindOperator(name string) operator {
	switch name {
	case "$type":
		return eager{count{1, false}, kindOf}
	case "$toInt":
		return just(toInt, ints|texts|bools|dates)
	case "$toText":
		return just(toText, ints|texts|bools)
	case "$toDate":
		return just(toDate, ints|dates)
	}
	return nil
}

func kindOf(l []api.Value) (api.Value, api.Errno) {
	return text(kindWord(l[0].Kind)), api.OK
}

// kindWord is a kind in words. A value of none of the kinds is missing, whatever else it has.
func kindWord(kind int) string {
	switch kind {
	case api.KindMin:
		return "min"
	case api.KindNull:
		return "null"
	case api.KindInt:
		return "int"
	case api.KindText:
		return "text"
	case api.KindDoc:
		return "doc"
	case api.KindList:
		return "list"
	case api.KindBytes:
		return "bytes"
	case api.KindId:
		return "id"
	case api.KindBool:
		return "bool"
	case api.KindDate:
		return "date"
	case api.KindMax:
		return "max"
	}
	return "missing"
}

func toInt(l []api.Value) (api.Value, api.Errno) {
	if l[0].Kind != api.KindText {
		return number(l[0].Int), api.OK
	}
	if !isNumber(l[0].Text) {
		return api.Value{}, api.ErrExprKind
	}
	n, err := strconv.ParseInt(l[0].Text, 10, 64)
	if err != nil {
		return api.Value{}, api.ErrExprOver
	}
	return number(int(n)), api.OK
}

// isNumber tells whether a text is digits, perhaps with a - ahead.
func isNumber(s string) bool {
	digits := strings.TrimPrefix(s, "-")
	return digits != "" && strings.Trim(digits, "0123456789") == ""
}

func toText(l []api.Value) (api.Value, api.Errno) {
	v := l[0]
	switch v.Kind {
	case api.KindInt:
		return text(strconv.Itoa(v.Int)), api.OK
	case api.KindBool:
		return text(strconv.FormatBool(Truth(v))), api.OK
	}
	return v, api.OK
}

func toDate(l []api.Value) (api.Value, api.Errno) {
	return date(l[0].Int), api.OK
}

package value

import (
	"strings"
	"unicode/utf8"

	"coffret/api"
)

// Right tells whether a value may be.
func Right(v api.Value) api.Errno {
	if Size(v) > api.MaxDoc {
		return api.ErrBig
	}
	return rightAt(v, 1)
}

// rightAt is what is wrong first with a value that is so deep, if it is a document or list.
func rightAt(v api.Value, deep int) api.Errno {
	nested := v.Kind == api.KindDoc || v.Kind == api.KindList
	if nested && deep > api.MaxDepth {
		return api.ErrValueDeep
	}
	if !alone(v) || !fits(v) {
		return api.ErrValueKind
	}
	switch v.Kind {
	case api.KindList:
		return rightElements(v.List, deep+1)
	case api.KindDoc:
		return rightFields(v.Doc, deep+1)
	}
	return api.OK
}

func rightElements(l []api.Value, deep int) api.Errno {
	for _, x := range l {
		if e := rightAt(x, deep); e != api.OK {
			return e
		}
	}
	return api.OK
}

func rightFields(l []api.Field, deep int) api.Errno {
	ahead := map[string]struct{}{}
	for _, f := range l {
		if _, twice := ahead[f.Name]; twice || !rightName(f.Name) {
			return api.ErrValueName
		}
		ahead[f.Name] = struct{}{}
		if e := rightAt(f.Value, deep); e != api.OK {
			return e
		}
	}
	return api.OK
}

func rightName(s string) bool {
	return s != "" && len(s) <= api.MaxName && utf8.ValidString(s) && strings.IndexByte(s, 0) < 0
}

// alone tells whether all is zero that a value's kind does not use.
func alone(v api.Value) bool {
	var number, text, list, doc bool
	switch v.Kind {
	case api.KindInt, api.KindBool, api.KindDate:
		number = true
	case api.KindText, api.KindBytes, api.KindId:
		text = true
	case api.KindList:
		list = true
	case api.KindDoc:
		doc = true
	}
	return (number || v.Int == 0) && (text || v.Text == "") && (list || len(v.List) == 0) && (doc || len(v.Doc) == 0)
}

// fits tells whether a value's kind is one, and what the kind uses is as it must be.
func fits(v api.Value) bool {
	switch v.Kind {
	case api.KindText:
		return utf8.ValidString(v.Text)
	case api.KindId:
		return len(v.Text) == idBytes
	case api.KindBool:
		return v.Int == 0 || v.Int == 1
	}
	return v.Kind >= api.KindMin && v.Kind <= api.KindMax
}

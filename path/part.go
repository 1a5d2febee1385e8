package path

import (
	"slices"
	"strings"

	"coffret/api"
	"coffret/value"
)

// maxDigits is how many digits a place has at most.
const maxDigits = 9

// tooMany tells whether parts lead nowhere.
func tooMany(parts []string) bool {
	return len(parts) > api.MaxParts
}

// mayBePart tells whether a path may have that part; which names fields may have is asked of layer 1.
func mayBePart(s string) bool {
	named := api.Value{Kind: api.KindDoc, Doc: []api.Field{{Name: s, Value: api.Value{Kind: api.KindNull}}}}
	return !strings.HasPrefix(s, "$") && value.Right(named) == api.OK
}

// place is the number that a part is; -1, if it is no place.
func place(part string) int {
	if part == "" || len(part) > maxDigits || part[0] == '0' && part != "0" {
		return -1
	}
	n := 0
	for i := range len(part) {
		if part[i] < '0' || part[i] > '9' {
			return -1
		}
		n = 10*n + int(part[i]-'0')
	}
	return n
}

// stand is where in a document the field, or in a list the element, stands to which a part leads; -1, if there is none.
func stand(v api.Value, part string) int {
	switch v.Kind {
	case api.KindDoc:
		return slices.IndexFunc(v.Doc, func(f api.Field) bool { return f.Name == part })
	case api.KindList:
		if n := place(part); n < len(v.List) {
			return n
		}
	}
	return -1
}

// below is what stands there.
func below(v api.Value, at int) api.Value {
	if v.Kind == api.KindDoc {
		return v.Doc[at].Value
	}
	return v.List[at]
}

// missing tells whether a value stands for none.
func missing(v api.Value) bool {
	return v.Kind == 0 && v.Int == 0 && v.Text == "" && len(v.List) == 0 && len(v.Doc) == 0
}

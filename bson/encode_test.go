package bson_test

import (
	"slices"
	"strconv"
	"strings"
	"testing"

	"coffret/api"
	"coffret/bson"
	"coffret/value"
)

// TestEncodeExamples: the chapter's table.
func TestEncodeExamples(t *testing.T) {
	for what, x := range map[string]struct {
		v    api.Value
		want []byte
	}{
		"no fields":      {doc(), []byte{5, 0, 0, 0, 0}},
		"{a: 1}":         {a(num(1)), []byte{16, 0, 0, 0, 18, 97, 0, 1, 0, 0, 0, 0, 0, 0, 0, 0}},
		`{a: "b"}`:       {a(txt("b")), []byte{14, 0, 0, 0, 2, 97, 0, 2, 0, 0, 0, 98, 0, 0}},
		"{a: list true}": {a(list(flag(1))), []byte{17, 0, 0, 0, 4, 97, 0, 9, 0, 0, 0, 8, 48, 0, 1, 0, 0}},
	} {
		wantBytes(t, what, encoded(t, x.v), x.want)
	}
	if b, e := bson.Encode(num(5)); e != api.ErrArg || len(b) != 0 {
		t.Error(b, e)
	}
}

// TestEncodeKinds: each kind's byte, and its value's bytes (P2.1).
func TestEncodeKinds(t *testing.T) {
	twelve := "\x00\x01\xff3456789ab"
	for what, x := range map[string]struct {
		v    api.Value
		want []byte
	}{
		"min":           {api.Value{Kind: api.KindMin}, part(255, "a")},
		"null":          {null(), part(10, "a")},
		"max":           {api.Value{Kind: api.KindMax}, part(127, "a")},
		"0":             {num(0), part(18, "a", 0, 0, 0, 0, 0, 0, 0, 0)},
		"-1":            {num(-1), part(18, "a", 255, 255, 255, 255, 255, 255, 255, 255)},
		"-2":            {num(-2), part(18, "a", 254, 255, 255, 255, 255, 255, 255, 255)},
		"the least":     {num(api.MinInt), part(18, "a", 0, 0, 0, 0, 0, 0, 0, 128)},
		"the greatest":  {num(api.MaxInt), part(18, "a", 255, 255, 255, 255, 255, 255, 255, 127)},
		"eight bytes":   {num(0x0102030405060708), part(18, "a", 8, 7, 6, 5, 4, 3, 2, 1)},
		"a date":        {date(0x0102030405060708), part(9, "a", 8, 7, 6, 5, 4, 3, 2, 1)},
		"a date ahead":  {date(-256), part(9, "a", 0, 255, 255, 255, 255, 255, 255, 255)},
		"no text":       {txt(""), part(2, "a", 1, 0, 0, 0, 0)},
		"a text":        {txt("\u00e9\x00b"), part(2, "a", 5, 0, 0, 0, 0xc3, 0xa9, 0, 98, 0)},
		"no bytes":      {raw(""), part(5, "a", 0, 0, 0, 0, 0)},
		"bytes":         {raw("\xff\x00\x80"), part(5, "a", 3, 0, 0, 0, 0, 255, 0, 128)},
		"an id":         {id(twelve), part(7, "a", []byte(twelve)...)},
		"false":         {flag(0), part(8, "a", 0)},
		"true":          {flag(1), part(8, "a", 1)},
		"no fields":     {doc(), part(3, "a", 5, 0, 0, 0, 0)},
		"fields":        {doc(of("y", null()), of("x", flag(1))), part(3, "a", whole(part(10, "y"), part(8, "x", 1))...)},
		"no elements":   {list(), part(4, "a", 5, 0, 0, 0, 0)},
		"elements":      {list(null(), flag(0)), part(4, "a", whole(part(10, "0"), part(8, "1", 0))...)},
		"within others": {list(list(doc())), part(4, "a", whole(part(4, "0", whole(part(3, "0", whole()...))...))...)},
	} {
		wantBytes(t, what, encoded(t, a(x.v)), whole(x.want))
	}
}

// TestEncodeLengths: numbers of more than one byte, and names of several digits.
func TestEncodeLengths(t *testing.T) {
	long := strings.Repeat("x", 0x1234)
	wantBytes(t, "a text", encoded(t, a(txt(long))), whole(part(2, "a", slices.Concat(four(0x1235), []byte(long), []byte{0})...)))
	wantBytes(t, "bytes", encoded(t, a(raw(long))), whole(part(5, "a", slices.Concat(four(0x1234), []byte{0}, []byte(long))...)))
	var in [][]byte
	for i := range 1001 {
		in = append(in, part(10, strconv.Itoa(i)))
	}
	wantBytes(t, "a list", encoded(t, a(list(nulls(1001)...))), whole(part(4, "a", whole(in...)...)))
}

// TestEncodeFields: as they stand, whatever their names.
func TestEncodeFields(t *testing.T) {
	v := doc(of("b", null()), of("a", flag(1)), of("\u20ac", null()), of("0", null()))
	want := whole(part(10, "b"), part(8, "a", 1), part(10, "\u20ac"), part(10, "0"))
	wantBytes(t, "fields", encoded(t, v), want)
}

// TestEncodeNoDocument: ErrArg, whatever else is wrong (P2.1, W4).
func TestEncodeNoDocument(t *testing.T) {
	fields := []api.Field{of("a", num(1))}
	l := []api.Value{{}, num(5), txt("a"), list(), list(doc()), txt("\xff"), id(""), nest(num(1), 30, false), txt(strings.Repeat("t", 70000)), {Kind: -1}, {Kind: api.MinInt}, {Kind: api.MaxInt}}
	for kind := range 14 {
		if kind != api.KindDoc {
			l = append(l, api.Value{Kind: kind, Doc: fields}, api.Value{Kind: kind})
		}
	}
	for _, v := range l {
		if b, e := bson.Encode(v); e != api.ErrArg || len(b) != 0 {
			t.Errorf("kind %d: %s %v", v.Kind, short(b), e)
		}
	}
}

// TestEncodeWrong: value.Right's error (P2.1).
func TestEncodeWrong(t *testing.T) {
	for what, x := range map[string]struct {
		v    api.Value
		want api.Errno
	}{
		"a byte too many":          {a(txt(strings.Repeat("t", api.MaxDoc-12))), api.ErrBig},
		"far too many":             {a(list(nulls(70000)...)), api.ErrBig},
		"too big and wrong":        {a(txt(strings.Repeat("\xff", api.MaxDoc))), api.ErrBig},
		"too deep":                 {nest(num(1), api.MaxDepth+1, true), api.ErrValueDeep},
		"lists too deep":           {a(nest(list(), api.MaxDepth-1, false)), api.ErrValueDeep},
		"no name":                  {doc(of("", num(1))), api.ErrValueName},
		"a name twice":             {doc(of("a", num(1)), of("a", num(1))), api.ErrValueName},
		"a name with 0":            {doc(of("a\x00b", num(1))), api.ErrValueName},
		"a long name":              {doc(of(strings.Repeat("n", api.MaxName+1), num(1))), api.ErrValueName},
		"a name of other bytes":    {doc(of("\xff", num(1))), api.ErrValueName},
		"missing":                  {a(api.Value{}), api.ErrValueKind},
		"an unknown kind":          {a(api.Value{Kind: 12}), api.ErrValueKind},
		"a kind below 0":           {a(api.Value{Kind: -1}), api.ErrValueKind},
		"an id of eleven":          {a(id("12345678901")), api.ErrValueKind},
		"a bool of 2":              {a(flag(2)), api.ErrValueKind},
		"a text of other bytes":    {a(txt("\xff")), api.ErrValueKind},
		"what is not used":         {api.Value{Kind: api.KindDoc, Int: 1}, api.ErrValueKind},
		"the first that is wrong":  {doc(of("a", flag(2)), of("", num(1))), api.ErrValueKind},
		"the first that is wrong,": {doc(of("", num(1)), of("a", flag(2))), api.ErrValueName},
	} {
		if b, e := bson.Encode(x.v); e != x.want || len(b) != 0 {
			t.Errorf("%s: %s %v, want %v", what, short(b), e, x.want)
		}
	}
}

// TestEncodeAtLimits: what is at a limit is fine.
func TestEncodeAtLimits(t *testing.T) {
	for what, v := range map[string]api.Value{
		"the most bytes":      biggest(),
		"the deepest":         nest(num(1), api.MaxDepth, true),
		"the deepest list":    a(nest(list(), api.MaxDepth-2, false)),
		"the longest name":    doc(of(strings.Repeat("n", api.MaxName), num(1))),
		"the most elements":   doc(of("l", list(nulls(9500)...))),
		"an empty, no nil":    {Kind: api.KindDoc, Doc: []api.Field{}, List: []api.Value{}},
		"an empty list in it": a(api.Value{Kind: api.KindList, List: []api.Value{}, Doc: []api.Field{}}),
	} {
		b := encoded(t, v)
		if len(b) != value.Size(v) {
			t.Errorf("%s: %d bytes, not %d", what, len(b), value.Size(v))
		}
		wantRead(t, what, b, 0, v, len(b))
	}
	if b := encoded(t, biggest()); len(b) != api.MaxDoc {
		t.Error(len(b))
	}
}

package keyenc_test

import (
	"bytes"
	"slices"
	"strings"
	"testing"

	"coffret/api"
	"coffret/keyenc"
	"coffret/value"
)

// TestReadExamples: the chapter's table.
func TestReadExamples(t *testing.T) {
	wantRow(t, "5", []byte{3, 128, 0, 0, 0, 0, 0, 0, 5}, up, row(num(5)))
	wantFault(t, "short", []byte{3, 128}, up, api.ErrKeyForm)
	wantFault(t, "two", []byte{2, 2}, up, api.ErrKeyForm)
}

// TestReadOfEachKind: the way back, and turned, if it falls (P3.2).
func TestReadOfEachKind(t *testing.T) {
	for _, x := range keyed() {
		wantRow(t, "rising", x.want, up, row(x.v))
		wantRow(t, "falling", turned(x.want), down, row(x.v))
		wantRow(t, "the first of two", append(bytes.Clone(x.want), 253), []bool{false, true}, row(x.v, null()))
		wantRow(t, "the last of two", append([]byte{2}, turned(x.want)...), []bool{false, true}, row(null(), x.v))
	}
}

// noKeys are bytes that are the key of no value.
func noKeys() map[string][]byte {
	long := slices.Repeat([]byte{110}, api.MaxName+1)
	deep := append(bytes.Repeat([]byte{6, 1}, api.MaxDepth), append([]byte{6}, make([]byte, api.MaxDepth+1)...)...)
	deepDocs := append(bytes.Repeat([]byte{5, 1, 97, 0, 0}, api.MaxDepth), append([]byte{5}, make([]byte, api.MaxDepth+1)...)...)
	return map[string][]byte{
		"none":                           {},
		"kind 0":                         {0},
		"kind 12":                        {12},
		"kind 13":                        {13},
		"kind 128":                       {128},
		"kind 255":                       {255},
		"a null that falls":              {253},
		"null and more":                  {2, 0},
		"two nulls":                      {2, 2},
		"least and most":                 {1, 11},
		"a number's kind":                {3},
		"a number of seven bytes":        {3, 128, 0, 0, 0, 0, 0, 0},
		"a number of nine bytes":         {3, 128, 0, 0, 0, 0, 0, 0, 5, 0},
		"a date's kind":                  {10},
		"a date of seven bytes":          {10, 128, 0, 0, 0, 0, 0, 0},
		"a bool's kind":                  {9},
		"a bool of 2":                    {9, 2},
		"a bool of 255":                  {9, 255},
		"a bool of two bytes":            {9, 1, 0},
		"an id's kind":                   {8},
		"an id of eleven bytes":          {8, 1, 2, 3, 4, 5, 6, 7, 8, 9, 10, 11},
		"an id of thirteen bytes":        {8, 1, 2, 3, 4, 5, 6, 7, 8, 9, 10, 11, 12, 13},
		"a text's kind":                  {4},
		"a text that does not end":       {4, 97},
		"a text that half ends":          {4, 97, 0},
		"a text that goes on":            {4, 97, 0, 255},
		"a text that goes on, half ends": {4, 97, 0, 255, 0},
		"a text with 0 1":                {4, 97, 0, 1, 0, 0},
		"a text with 0 254":              {4, 97, 0, 254, 0, 0},
		"a text with 0 and a letter":     {4, 0, 97, 0, 0},
		"a text, and a byte":             {4, 97, 0, 0, 0},
		"a text, and a byte 255":         {4, 97, 0, 0, 255},
		"a text that ends twice":         {4, 97, 0, 0, 0, 0},
		"a text of other bytes":          {4, 255, 0, 0},
		"a text of half a letter":        {4, 0xc3, 0, 0},
		"a letter around a byte 0":       {4, 0xc3, 0, 255, 0xbf, 0, 0},
		"a text of a surrogate":          {4, 0xed, 0xa0, 0x80, 0, 0},
		"bytes' kind":                    {7},
		"bytes that do not end":          {7, 255},
		"bytes that half end":            {7, 255, 0},
		"bytes with 0 2":                 {7, 0, 2, 0, 0},
		"bytes, and a byte":              {7, 0, 0, 1},
		"a list's kind":                  {6},
		"a list that does not end":       {6, 1, 2},
		"a list with a byte 2":           {6, 2},
		"a list with a byte 2, ended":    {6, 2, 2, 0},
		"a list with a byte 255":         {6, 255, 2, 0},
		"a list with 2 behind one":       {6, 1, 2, 2, 2, 0},
		"a list without a value":         {6, 1},
		"a list of kind 0":               {6, 1, 0},
		"a list of kind 0, ended":        {6, 1, 0, 0},
		"a list of kind 12":              {6, 1, 12, 0},
		"a list, and a byte":             {6, 0, 0},
		"a list of a bool of 2":          {6, 1, 9, 2, 0},
		"a list of a list":               {6, 1, 6, 1, 2, 0},
		"a document's kind":              {5},
		"a document that does not end":   {5, 1, 97, 0, 0, 2},
		"a document with a byte 2":       {5, 2, 97, 0, 0, 2, 0},
		"a document with 255":            {5, 255, 97, 0, 0, 2, 0},
		"a document with 2 behind one":   {5, 1, 97, 0, 0, 2, 2, 98, 0, 0, 2, 0},
		"a field of nothing":             {5, 1},
		"a field without a value":        {5, 1, 97, 0, 0},
		"a field of kind 0":              {5, 1, 97, 0, 0, 0},
		"a field of kind 0, ended":       {5, 1, 97, 0, 0, 0, 0},
		"a document, and a byte":         {5, 0, 0},
		"a name of none":                 {5, 1, 0, 0, 2, 0},
		"a name that does not end":       {5, 1, 97},
		"a name that half ends":          {5, 1, 97, 0},
		"a name with 0 1":                {5, 1, 97, 0, 1, 0, 0, 2, 0},
		"a name with a byte 0":           {5, 1, 97, 0, 255, 0, 0, 2, 0},
		"a name of other bytes":          {5, 1, 255, 0, 0, 2, 0},
		"a name twice":                   {5, 1, 97, 0, 0, 2, 1, 97, 0, 0, 2, 0},
		"a name twice, not side by side": {5, 1, 97, 0, 0, 2, 1, 98, 0, 0, 2, 1, 97, 0, 0, 3, 0, 0, 0, 0, 0, 0, 0, 0, 0},
		"a long name":                    slices.Concat([]byte{5, 1}, long, []byte{0, 0, 2, 0}),
		"a field of a bool of 2":         {5, 1, 97, 0, 0, 9, 2, 0},
		"lists too deep":                 deep,
		"documents too deep":             deepDocs,
	}
}

// TestReadNoKeys: {ErrKeyForm, -1}, rising and falling, alone and among others (P3.2).
func TestReadNoKeys(t *testing.T) {
	for what, b := range noKeys() {
		wantFault(t, what, b, up, api.ErrKeyForm)
		wantFault(t, what+", falling", turned(b), down, api.ErrKeyForm)
		wantFault(t, what+", behind others", append([]byte{9, 1, 253}, b...), []bool{false, true, false}, api.ErrKeyForm)
		wantFault(t, what+", falling, behind others", append([]byte{9, 1, 2}, turned(b)...), []bool{false, false, true}, api.ErrKeyForm)
	}
	wantFault(t, "a half ahead of another", []byte{4, 97, 0, 253}, []bool{false, true}, api.ErrKeyForm)
	wantFault(t, "a text that another one would end", []byte{4, 97, 0, 255, 255}, []bool{false, true}, api.ErrKeyForm)
	wantFault(t, "too few", []byte{2, 2}, []bool{false, false, false}, api.ErrKeyForm)
	wantFault(t, "too many", []byte{2, 2, 2}, []bool{false, false}, api.ErrKeyForm)
	wantFault(t, "none", nil, make([]bool, api.MaxFields), api.ErrKeyForm)
}

// TestReadOneDeep: what is just as deep as may be (P3.2).
func TestReadOneDeep(t *testing.T) {
	deepest := append(bytes.Repeat([]byte{6, 1}, api.MaxDepth-1), append([]byte{6}, make([]byte, api.MaxDepth)...)...)
	wantRow(t, "lists", deepest, up, row(nest(list(), api.MaxDepth-1, false)))
	deepest = append(bytes.Repeat([]byte{5, 1, 97, 0, 0}, api.MaxDepth-1), append([]byte{5}, make([]byte, api.MaxDepth)...)...)
	wantRow(t, "documents", turned(deepest), down, row(nest(doc(), api.MaxDepth-1, true)))
	wantFault(t, "all but ends", bytes.Repeat([]byte{6, 1}, api.MaxKey/2), up, api.ErrKeyForm)
	wantFault(t, "all but ends, falling", turned(bytes.Repeat([]byte{5, 1, 97, 0, 0}, api.MaxKey/5)), down, api.ErrKeyForm)
}

// TestReadNoDesc: {ErrArg, -1}, whatever the bytes (P3.2, W4).
func TestReadNoDesc(t *testing.T) {
	for _, many := range []int{0, 5, 6, 70000} {
		for _, b := range [][]byte{nil, {2}, bytes.Repeat([]byte{2}, min(many, 500)), make([]byte, api.MaxKey+1)} {
			wantFault(t, "desc", b, make([]bool, many), api.ErrArg)
		}
	}
	wantFault(t, "nil", nil, nil, api.ErrArg)
}

// TestReadLong: {ErrKeyLong, -1} of more than MaxKey bytes, whatever they are (P3.2).
func TestReadLong(t *testing.T) {
	text := func(many int) []byte { return slices.Concat([]byte{4}, slices.Repeat([]byte{116}, many), []byte{0, 0}) }
	wantRow(t, "the most", text(997), up, row(txt(strings.Repeat("t", 997))))
	wantRow(t, "the most, falling", turned(text(997)), down, row(txt(strings.Repeat("t", 997))))
	wantRow(t, "of two", append(text(996), 2), []bool{false, false}, row(txt(strings.Repeat("t", 996)), null()))
	wantRow(t, "of a list", slices.Concat([]byte{6}, bytes.Repeat([]byte{1, 2}, 499), []byte{0}), up, row(list(slices.Repeat(row(null()), 499)...)))
	wantFault(t, "the most, no key", make([]byte, api.MaxKey), up, api.ErrKeyForm)
	wantFault(t, "one more", text(998), up, api.ErrKeyLong)
	wantFault(t, "one more, falling", turned(text(998)), down, api.ErrKeyLong)
	wantFault(t, "one more behind", append(text(997), 0), up, api.ErrKeyLong)
	wantFault(t, "of two", append(text(997), 2), []bool{false, false}, api.ErrKeyLong)
	wantFault(t, "no key", make([]byte, api.MaxKey+1), up, api.ErrKeyLong)
	wantFault(t, "very long", make([]byte, 1<<24), make([]bool, api.MaxFields), api.ErrKeyLong)
}

// check tells whether Read tells a row, and that just of its key.
func check(t *testing.T, b []byte, desc []bool) bool {
	t.Helper()
	l, f := keyenc.Read(b, desc)
	if f != (api.Fault{}) {
		if f != (api.Fault{Code: api.ErrKeyForm, At: -1}) || len(l) != 0 {
			t.Fatalf("Read(%s, %v): %v %v", short(b), desc, l, f)
		}
		return false
	}
	for _, v := range l {
		if value.Right(v) != api.OK {
			t.Fatalf("Read(%s, %v): %v", short(b), desc, l)
		}
	}
	if back, e := keyenc.Key(l, desc); e != api.OK || !bytes.Equal(back, b) {
		t.Fatalf("Read(%s, %v): %v, whose key is %s", short(b), desc, l, short(back))
	}
	return true
}

// TestReadShortOnes: of all bytes of at most two, and of some of three, just those are keys that are one (P3.2).
func TestReadShortOnes(t *testing.T) {
	keys := map[string]bool{"\x01": true, "\x02": true, "\x0b": true, "\x09\x00": true, "\x09\x01": true, "\x05\x00": true, "\x06\x00": true, "\x04\x00\x00": true, "\x07\x00\x00": true}
	for _, first := range append(every(), -1) {
		for _, second := range append(every(), -1) {
			for _, third := range []int{-1, 0, 1, 2, 255} {
				b := []byte{}
				for _, c := range []int{first, second, third} {
					if c >= 0 {
						b = append(b, byte(c))
					}
				}
				if check(t, b, up) != keys[string(b)] || check(t, turned(b), down) != keys[string(b)] {
					t.Errorf("%s: a key, or none", short(b))
				}
			}
		}
	}
}

// every is each byte.
func every() []int {
	l := []int{}
	for i := range 256 {
		l = append(l, i)
	}
	return l
}

// TestReadAnything: whatever the bytes, a row whose key they are, or a fault (P3.2, P3.6, W1).
func TestReadAnything(t *testing.T) {
	d := dice(3)
	read, refused := 0, 0
	for range 3000 {
		l, desc := d.row()
		b := keyOf(t, l, desc)
		for range 10 {
			switch d.below(4) {
			case 0:
				b = slices.Delete(b, d.below(len(b)), len(b))
			case 1:
				b = slices.Insert(b, d.below(len(b)+1), byte(d.below(256)))
			}
			if len(b) == 0 {
				break
			}
			b[d.below(len(b))] = []byte{0, 1, 2, 4, 5, 6, 7, 9, 97, 244, 246, 248, 249, 251, 253, 254, 255, byte(d.below(256))}[d.below(18)]
			if check(t, b, desc) {
				read++
			} else {
				refused++
			}
			check(t, b, ways(len(desc))[d.below(1<<len(desc))])
		}
	}
	if read < 300 || refused < 3000 {
		t.Error("the bytes are too much alike: ", read, refused)
	}
}

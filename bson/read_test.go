package bson_test

import (
	"slices"
	"strconv"
	"strings"
	"testing"

	"coffret/api"
	"coffret/bson"
)

// broken are bytes of which the outermost document's length is right, and what is wrong with them, at which byte (P2.2).
func broken() map[string]struct {
	b    []byte
	want api.Fault
} {
	long := strings.Repeat("n", api.MaxName)
	return map[string]struct {
		b    []byte
		want api.Fault
	}{
		"a length of 0":                    {[]byte{0, 0, 0, 0, 0}, fault(api.ErrBsonLength, 0)},
		"a length of 4":                    {[]byte{4, 0, 0, 0, 0}, fault(api.ErrBsonLength, 0)},
		"a length of 4, no more":           {[]byte{4, 0, 0, 0}, fault(api.ErrBsonLength, 0)},
		"a length above MaxDoc":            {[]byte{1, 0, 1, 0, 0}, fault(api.ErrBsonLength, 0)},
		"a length of the highest byte":     {[]byte{5, 0, 0, 128, 0}, fault(api.ErrBsonLength, 0)},
		"a length of all bits":             {[]byte{255, 255, 255, 255, 0}, fault(api.ErrBsonLength, 0)},
		"the end is not 0":                 {[]byte{5, 0, 0, 0, 1}, fault(api.ErrBsonEnd, 4)},
		"the end is a kind":                {[]byte{5, 0, 0, 0, 10}, fault(api.ErrBsonEnd, 4)},
		"0 ahead of the end":               {[]byte{6, 0, 0, 0, 0, 0}, fault(api.ErrBsonEnd, 4)},
		"0 ahead of an end that is wrong":  {[]byte{6, 0, 0, 0, 0, 9}, fault(api.ErrBsonEnd, 4)},
		"0 ahead of a field":               {whole([]byte{0}, part(10, "a")), fault(api.ErrBsonEnd, 4)},
		"the end behind a field is not 0":  {[]byte{8, 0, 0, 0, 10, 97, 0, 7}, fault(api.ErrBsonEnd, 7)},
		"0 behind a field":                 {whole(part(10, "a"), []byte{0}), fault(api.ErrBsonEnd, 7)},
		"kind 1":                           {whole(part(1, "a", 0, 0, 0, 0, 0, 0, 0, 0)), fault(api.ErrBsonKind, 4)},
		"kind 6":                           {whole(part(6, "a")), fault(api.ErrBsonKind, 4)},
		"kind 11":                          {whole(part(11, "a")), fault(api.ErrBsonKind, 4)},
		"kind 128":                         {whole(part(128, "a")), fault(api.ErrBsonKind, 4)},
		"a kind ahead of a name":           {whole(part(11, "")), fault(api.ErrBsonKind, 4)},
		"a name without an end":            {[]byte{8, 0, 0, 0, 10, 97, 98, 0}, fault(api.ErrBsonName, 5)},
		"no room for a name":               {[]byte{6, 0, 0, 0, 10, 0}, fault(api.ErrBsonName, 5)},
		"no room, no end":                  {[]byte{6, 0, 0, 0, 10, 97}, fault(api.ErrBsonName, 5)},
		"no name":                          {whole(part(10, "")), fault(api.ErrBsonName, 5)},
		"a long name":                      {whole(part(10, long+"n")), fault(api.ErrBsonName, 5)},
		"a name that is no UTF-8":          {whole(part(10, "a\xff")), fault(api.ErrBsonName, 5)},
		"half a rune":                      {whole(part(10, "\xe2\x82")), fault(api.ErrBsonName, 5)},
		"a name twice":                     {whole(part(10, "a"), part(10, "a")), fault(api.ErrBsonName, 8)},
		"a name twice, another between":    {whole(part(8, "a", 1), part(10, "b"), part(18, "a")), fault(api.ErrBsonName, 12)},
		"a long name twice":                {whole(part(10, long), part(10, long)), fault(api.ErrBsonName, 107)},
		"a name ahead of its value":        {whole(part(8, "", 7)), fault(api.ErrBsonName, 5)},
		"no room for a number":             {[]byte{10, 0, 0, 0, 18, 97, 0, 1, 2, 0}, fault(api.ErrBsonShort, 7)},
		"seven bytes of a number":          {whole(part(18, "a", 1, 2, 3, 4, 5, 6, 7)), fault(api.ErrBsonShort, 7)},
		"seven bytes of a date":            {whole(part(9, "a", 1, 2, 3, 4, 5, 6, 7)), fault(api.ErrBsonShort, 7)},
		"none of a date":                   {whole(part(9, "a")), fault(api.ErrBsonShort, 7)},
		"eleven bytes of an id":            {whole(part(7, "a", []byte("12345678901")...)), fault(api.ErrBsonShort, 7)},
		"no bool":                          {whole(part(8, "a")), fault(api.ErrBsonShort, 7)},
		"a bool of 2":                      {[]byte{9, 0, 0, 0, 8, 97, 0, 2, 0}, fault(api.ErrBsonText, 7)},
		"a bool of 255":                    {whole(part(8, "a", 255)), fault(api.ErrBsonText, 7)},
		"three bytes of a text's number":   {whole(part(2, "a", 1, 0, 0)), fault(api.ErrBsonShort, 7)},
		"no number of a text":              {whole(part(2, "a")), fault(api.ErrBsonShort, 7)},
		"a text of 0":                      {[]byte{12, 0, 0, 0, 2, 97, 0, 0, 0, 0, 0, 0}, fault(api.ErrBsonLength, 7)},
		"a text of 0, and more":            {whole(part(2, "a", 0, 0, 0, 0, 0)), fault(api.ErrBsonLength, 7)},
		"a text of 1, no room":             {whole(part(2, "a", 1, 0, 0, 0)), fault(api.ErrBsonShort, 7)},
		"a text into the end":              {whole(part(2, "a", 3, 0, 0, 0, 98, 0)), fault(api.ErrBsonShort, 7)},
		"a text beyond it":                 {whole(part(2, "a", 4, 0, 0, 0, 98, 0)), fault(api.ErrBsonShort, 7)},
		"a text of all bits":               {whole(part(2, "a", 255, 255, 255, 255, 98, 0)), fault(api.ErrBsonShort, 7)},
		"a text of the highest bit":        {whole(part(2, "a", 2, 0, 0, 128, 98, 0)), fault(api.ErrBsonShort, 7)},
		"a text that does not end with 0":  {[]byte{13, 0, 0, 0, 2, 97, 0, 1, 0, 0, 0, 1, 0}, fault(api.ErrBsonText, 11)},
		"a longer one":                     {whole(part(2, "a", 3, 0, 0, 0, 97, 98, 99)), fault(api.ErrBsonText, 11)},
		"a text that is no UTF-8":          {whole(part(2, "a", 3, 0, 0, 0, 97, 255, 0)), fault(api.ErrBsonText, 11)},
		"a text that ends within a rune":   {whole(part(2, "a", 3, 0, 0, 0, 0xe2, 0x82, 0)), fault(api.ErrBsonText, 11)},
		"half of a pair as a rune":         {whole(part(2, "a", 4, 0, 0, 0, 0xed, 0xa0, 0x80, 0)), fault(api.ErrBsonText, 11)},
		"four bytes of bytes' head":        {whole(part(5, "a", 0, 0, 0, 0)), fault(api.ErrBsonShort, 7)},
		"four bytes, too many asked":       {whole(part(5, "a", 9, 0, 0, 0)), fault(api.ErrBsonShort, 7)},
		"no head of bytes":                 {whole(part(5, "a")), fault(api.ErrBsonShort, 7)},
		"bytes into the end":               {whole(part(5, "a", 2, 0, 0, 0, 0, 9)), fault(api.ErrBsonShort, 7)},
		"bytes of all bits":                {whole(part(5, "a", 255, 255, 255, 255, 0, 9)), fault(api.ErrBsonShort, 7)},
		"bytes into the end, another byte": {whole(part(5, "a", 2, 0, 0, 0, 1, 9)), fault(api.ErrBsonShort, 7)},
		"bytes behind another byte":        {whole(part(5, "a", 1, 0, 0, 0, 1, 9)), fault(api.ErrBsonText, 11)},
		"no bytes behind another byte":     {whole(part(5, "a", 0, 0, 0, 0, 128)), fault(api.ErrBsonText, 11)},
	}
}

// brokenNests is the same of what is within others.
func brokenNests() map[string]struct {
	b    []byte
	want api.Fault
} {
	deepest := func(code byte, last []byte) []byte {
		for range api.MaxDepth - 2 {
			last = whole(part(4, "0", last...))
		}
		return whole(part(code, "a", last...))
	}
	var many [][]byte
	for i := range 12 {
		many = append(many, part(10, strconv.Itoa(i)))
	}
	return map[string]struct {
		b    []byte
		want api.Fault
	}{
		"three bytes of a document":       {whole(part(3, "a", 5, 0, 0)), fault(api.ErrBsonShort, 7)},
		"none of a list":                  {whole(part(4, "a")), fault(api.ErrBsonShort, 7)},
		"a document of 4":                 {whole(part(3, "a", 4, 0, 0, 0)), fault(api.ErrBsonLength, 7)},
		"a list of 4":                     {whole(part(4, "a", 4, 0, 0, 0, 0)), fault(api.ErrBsonLength, 7)},
		"a list above MaxDoc":             {whole(part(4, "a", 1, 0, 1, 0, 0)), fault(api.ErrBsonLength, 7)},
		"a document of all bits":          {whole(part(3, "a", 255, 255, 255, 255, 0)), fault(api.ErrBsonLength, 7)},
		"a list of MaxDoc":                {whole(part(4, "a", 0, 0, 1, 0, 0)), fault(api.ErrBsonShort, 7)},
		"a document into the end":         {whole(part(3, "a", 6, 0, 0, 0, 0)), fault(api.ErrBsonShort, 7)},
		"a list of 5 into the end":        {whole(part(4, "a", 5, 0, 0, 0)), fault(api.ErrBsonShort, 7)},
		"its end is not 0":                {whole(part(3, "a", 5, 0, 0, 0, 1)), fault(api.ErrBsonEnd, 11)},
		"a list's end is not 0":           {whole(part(4, "a", 8, 0, 0, 0, 10, 48, 0, 9)), fault(api.ErrBsonEnd, 14)},
		"a list's 0 too early":            {whole(part(4, "a", 6, 0, 0, 0, 0, 0)), fault(api.ErrBsonEnd, 11)},
		"a kind within":                   {whole(part(3, "a", whole(part(10, "b"), part(20, "c"))...)), fault(api.ErrBsonKind, 14)},
		"a kind within a list":            {whole(part(4, "a", whole(part(99, "0"))...)), fault(api.ErrBsonKind, 11)},
		"a name that ends outside":        {[]byte{14, 0, 0, 0, 3, 97, 0, 7, 0, 0, 0, 10, 98, 0}, fault(api.ErrBsonShort, 7)},
		"a name that ends at the end":     {whole(part(3, "a", 7, 0, 0, 0, 10, 98, 0)), fault(api.ErrBsonName, 12)},
		"a name twice within":             {whole(part(10, "b"), part(3, "a", whole(part(10, "a"), part(10, "b"), part(10, "a"))...)), fault(api.ErrBsonName, 21)},
		"a name twice, one list between":  {whole(part(10, "a"), part(4, "b", whole()...), part(10, "a")), fault(api.ErrBsonName, 16)},
		"a list that begins with 1":       {whole(part(4, "a", whole(part(10, "1"))...)), fault(api.ErrBsonName, 12)},
		"a list that leaves one out":      {whole(part(4, "a", whole(part(10, "0"), part(10, "2"))...)), fault(api.ErrBsonName, 15)},
		"a list with one twice":           {whole(part(4, "a", whole(part(10, "0"), part(10, "0"))...)), fault(api.ErrBsonName, 15)},
		"a list of a name":                {whole(part(4, "a", whole(part(10, "a"))...)), fault(api.ErrBsonName, 12)},
		"a list of no name":               {whole(part(4, "a", whole(part(10, ""))...)), fault(api.ErrBsonName, 12)},
		"a list with a nought ahead":      {whole(part(4, "a", whole(part(10, "00"))...)), fault(api.ErrBsonName, 12)},
		"a list with +0":                  {whole(part(4, "a", whole(part(10, "+0"))...)), fault(api.ErrBsonName, 12)},
		"a list with 1 and more":          {whole(part(4, "a", whole(part(10, "0"), part(10, "10"))...)), fault(api.ErrBsonName, 15)},
		"a list's name without an end":    {whole(part(4, "a", 7, 0, 0, 0, 10, 48, 0)), fault(api.ErrBsonName, 12)},
		"a list of many, one too few":     {whole(part(4, "a", whole(slices.Concat(slices.Concat(many...), part(10, "13")))...)), fault(api.ErrBsonName, 50)},
		"a name ahead of its wrong value": {whole(part(4, "a", whole(part(8, "1", 7))...)), fault(api.ErrBsonName, 12)},
		"a number's room within":          {whole(part(3, "a", whole(part(18, "b", 1, 2, 3, 4, 5, 6, 7))...), part(10, "c")), fault(api.ErrBsonShort, 14)},
		"a text's room within":            {whole(part(3, "a", whole(part(2, "b", 3, 0, 0, 0, 98, 0))...), part(10, "c")), fault(api.ErrBsonShort, 14)},
		"bytes' room within":              {whole(part(4, "a", whole(part(5, "0", 2, 0, 0, 0, 0, 9))...), part(10, "c")), fault(api.ErrBsonShort, 14)},
		"an id's room within":             {whole(part(4, "a", whole(part(7, "0", []byte("12345678901")...))...), part(10, "c")), fault(api.ErrBsonShort, 14)},
		"a document's room within":        {whole(part(4, "a", whole(part(3, "0", 6, 0, 0, 0, 0))...), part(10, "c")), fault(api.ErrBsonShort, 14)},
		"a text within":                   {whole(part(4, "a", whole(part(2, "0", 2, 0, 0, 0, 255, 0))...)), fault(api.ErrBsonText, 18)},
		"behind what is within":           {whole(part(4, "a", whole()...), part(8, "b", 2)), fault(api.ErrBsonText, 15)},
		"too deep":                        {deepest(4, whole(part(4, "0", whole()...))), fault(api.ErrBsonDeep, 140)},
		"a document too deep":             {deepest(3, whole(part(3, "0", whole()...))), fault(api.ErrBsonDeep, 140)},
		"too deep, too short":             {deepest(4, whole(part(3, "0"))), fault(api.ErrBsonDeep, 140)},
		"too deep, a wrong length":        {deepest(4, whole(part(4, "0", 1, 0, 0, 0))), fault(api.ErrBsonDeep, 140)},
		"the first of two":                {whole(part(8, "a", 2), part(8, "a", 2)), fault(api.ErrBsonText, 7)},
	}
}

// TestReadFaults: the first fault, wherever the document stands (P2.2).
func TestReadFaults(t *testing.T) {
	for _, all := range []map[string]struct {
		b    []byte
		want api.Fault
	}{broken(), brokenNests()} {
		for what, x := range all {
			wantFault(t, what, x.b, 0, x.want)
			around := slices.Concat([]byte{9, 0, 7}, x.b, []byte{0, 0, 0, 10, 97, 0, 0})
			wantFault(t, what+", within others", around, 3, fault(x.want.Code, 3+x.want.At))
			if v, f := bson.Decode(x.b); f != x.want || !same(v, api.Value{}) {
				t.Errorf("%s: Decode: %v %v, want %v", what, v, f, x.want)
			}
		}
	}
}

// TestReadDeepDocuments: documents that are too deep, as lists are.
func TestReadDeepDocuments(t *testing.T) {
	b := whole()
	for range api.MaxDepth - 1 {
		b = whole(part(3, "a", b...))
	}
	wantRead(t, "the deepest", b, 0, nest(doc(), api.MaxDepth-1, true), len(b))
	wantFault(t, "too deep", whole(part(3, "a", b...)), 0, fault(api.ErrBsonDeep, 7*api.MaxDepth))
	wantFault(t, "as one of two", whole(part(10, "b"), part(3, "a", b...)), 0, fault(api.ErrBsonDeep, 7*api.MaxDepth+3))
	beside := whole(part(3, "a", b[7:len(b)-1]...), part(3, "b", b[7:len(b)-1]...))
	deep := nest(doc(), api.MaxDepth-2, true)
	wantRead(t, "two deep ones", beside, 0, doc(of("a", deep), of("b", deep)), len(beside))
}

// TestReadRoom: the outermost document's room is what is handed in.
func TestReadRoom(t *testing.T) {
	for what, x := range map[string]struct {
		b    []byte
		at   int
		want api.Fault
	}{
		"none":                    {nil, 0, fault(api.ErrBsonShort, 0)},
		"three bytes":             {[]byte{5, 0, 0}, 0, fault(api.ErrBsonShort, 0)},
		"three of a wrong one":    {[]byte{255, 255, 255}, 0, fault(api.ErrBsonShort, 0)},
		"a length alone":          {[]byte{5, 0, 0, 0}, 0, fault(api.ErrBsonShort, 0)},
		"a byte is missing":       {[]byte{6, 0, 0, 0, 0}, 0, fault(api.ErrBsonShort, 0)},
		"MaxDoc":                  {[]byte{0, 0, 1, 0, 0}, 0, fault(api.ErrBsonShort, 0)},
		"the end":                 {[]byte{5, 0, 0, 0, 0}, 5, fault(api.ErrBsonShort, 5)},
		"ahead of the end":        {[]byte{5, 0, 0, 0, 0}, 2, fault(api.ErrBsonShort, 2)},
		"behind others":           {[]byte{7, 7, 6, 0, 0, 0, 0}, 2, fault(api.ErrBsonShort, 2)},
		"behind others, a length": {[]byte{7, 7, 4, 0, 0, 0, 0}, 2, fault(api.ErrBsonLength, 2)},
	} {
		wantFault(t, what, x.b, x.at, x.want)
	}
	spare := whole(part(10, "a"))
	wantFault(t, "spare room is none", spare[:7], 0, fault(api.ErrBsonShort, 0))
	wantFault(t, "spare room is none", spare[:0], 0, fault(api.ErrBsonShort, 0))
}

// TestReadPlaces: {ErrArg, -1} of a place that there is not (P2.2).
func TestReadPlaces(t *testing.T) {
	b := whole()
	for _, at := range []int{-1, -2, 6, 7, 1 << 40, api.MinInt, api.MaxInt} {
		wantFault(t, "no place", b, at, fault(api.ErrArg, -1))
	}
	wantFault(t, "no place", nil, 1, fault(api.ErrArg, -1))
	wantFault(t, "no place", nil, -1, fault(api.ErrArg, -1))
	wantFault(t, "no place, but spare room", append(make([]byte, 0, 20), b...), 6, fault(api.ErrArg, -1))
	wantFault(t, "the last place", b, 5, fault(api.ErrBsonShort, 5))
}

// TestReadLimits: what is at a limit is fine (P2.2).
func TestReadLimits(t *testing.T) {
	long := strings.Repeat("n", api.MaxName)
	for what, x := range map[string]struct {
		b    []byte
		want api.Value
	}{
		"the most bytes":     {whole(part(2, "a", slices.Concat(four(65524), slices.Repeat([]byte{116}, 65523), []byte{0})...)), biggest()},
		"the longest name":   {whole(part(10, long)), doc(of(long, null()))},
		"another long one":   {whole(part(10, long), part(10, long[1:])), doc(of(long, null()), of(long[1:], null()))},
		"names within":       {whole(part(3, "a", whole(part(10, "a"))...), part(10, "b")), doc(of("a", a(null())), of("b", null()))},
		"the greatest":       {whole(part(18, "a", 255, 255, 255, 255, 255, 255, 255, 127)), a(num(api.MaxInt))},
		"the least":          {whole(part(9, "a", 0, 0, 0, 0, 0, 0, 0, 128)), a(date(api.MinInt))},
		"a text of 0 within": {whole(part(2, "a", 3, 0, 0, 0, 0, 0, 0)), a(txt("\x00\x00"))},
		"no UTF-8 in bytes":  {whole(part(5, "a", 2, 0, 0, 0, 0, 255, 254)), a(raw("\xff\xfe"))},
	} {
		wantRead(t, what, x.b, 0, x.want, len(x.b))
	}
	big := whole(part(2, "a", slices.Concat(four(65525), slices.Repeat([]byte{116}, 65524), []byte{0})...))
	wantFault(t, "a byte too many", big, 0, fault(api.ErrBsonLength, 0))
	wantRead(t, "MaxDoc among more", slices.Concat(big, encoded(t, biggest()), big), len(big), biggest(), len(big)+api.MaxDoc)
}

// TestDecode: bytes that are just one document (P2.3).
func TestDecode(t *testing.T) {
	for what, x := range map[string]struct {
		b    []byte
		v    api.Value
		want api.Fault
	}{
		"no fields":             {[]byte{5, 0, 0, 0, 0}, doc(), api.Fault{}},
		"a field":               {[]byte{8, 0, 0, 0, 10, 97, 0, 0}, a(null()), api.Fault{}},
		"the most bytes":        {encoded(t, biggest()), biggest(), api.Fault{}},
		"none":                  {nil, api.Value{}, fault(api.ErrBsonShort, 0)},
		"more":                  {[]byte{5, 0, 0, 0, 0, 7}, api.Value{}, fault(api.ErrBsonEnd, 5)},
		"more, of 0":            {[]byte{5, 0, 0, 0, 0, 0}, api.Value{}, fault(api.ErrBsonEnd, 5)},
		"two":                   {slices.Concat(whole(part(10, "a")), whole()), api.Value{}, fault(api.ErrBsonEnd, 8)},
		"MaxDoc of noughts":     {make([]byte, api.MaxDoc), api.Value{}, fault(api.ErrBsonLength, 0)},
		"more, MaxDoc in all":   {append(whole(), make([]byte, api.MaxDoc-5)...), api.Value{}, fault(api.ErrBsonEnd, 5)},
		"a byte above MaxDoc":   {append(whole(), make([]byte, api.MaxDoc-4)...), api.Value{}, fault(api.ErrLong, -1)},
		"the most, and a byte":  {append(encoded(t, biggest()), 0), api.Value{}, fault(api.ErrLong, -1)},
		"noughts above MaxDoc":  {make([]byte, api.MaxDoc+1), api.Value{}, fault(api.ErrLong, -1)},
		"a wrong one, and more": {append(whole(part(8, "a", 2)), 7), api.Value{}, fault(api.ErrBsonText, 7)},
	} {
		if v, f := bson.Decode(x.b); f != x.want || !same(v, x.v) {
			t.Errorf("%s: %v %v, want %v", what, v, f, x.want)
		}
	}
}

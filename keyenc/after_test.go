package keyenc_test

import (
	"bytes"
	"slices"
	"testing"

	"coffret/keyenc"
)

// TestAfter: up to the last byte that is not 255, that one 1 greater (P3.3).
func TestAfter(t *testing.T) {
	for what, x := range map[string]struct{ b, want []byte }{
		"the example":              {[]byte{1, 2, 255}, []byte{1, 3}},
		"255 alone":                {[]byte{255, 255}, nil},
		"none":                     {nil, nil},
		"none, no nil":             {[]byte{}, nil},
		"0":                        {[]byte{0}, []byte{1}},
		"254":                      {[]byte{254}, []byte{255}},
		"254 and 255":              {[]byte{254, 255}, []byte{255}},
		"one 255":                  {[]byte{255}, nil},
		"255 ahead":                {[]byte{255, 0}, []byte{255, 1}},
		"255 around":               {[]byte{255, 7, 255}, []byte{255, 8}},
		"several 255":              {[]byte{3, 255, 4, 255, 255, 255}, []byte{3, 255, 5}},
		"0 behind":                 {[]byte{9, 0, 0}, []byte{9, 0, 1}},
		"127":                      {[]byte{127}, []byte{128}},
		"a key":                    {[]byte{4, 97, 0, 0, 2}, []byte{4, 97, 0, 0, 3}},
		"more bytes than of a key": {append(make([]byte, 1<<20), bytes.Repeat([]byte{255}, 1<<20)...), append(make([]byte, 1<<20-1), 1)},
		"very many of 255":         {bytes.Repeat([]byte{255}, 1<<20), nil},
	} {
		wantBytes(t, what, keyenc.After(x.b), x.want)
	}
}

// fewBytes are all bytes of at most so many, made of those four that matter.
func fewBytes(many int) [][]byte {
	out := [][]byte{{}}
	from := 0
	for range many {
		last := len(out)
		for _, b := range out[from:last] {
			for _, c := range []byte{0, 1, 254, 255} {
				out = append(out, append(slices.Clone(b), c))
			}
		}
		from = last
	}
	return out
}

// TestAfterIsTheEdge: bytes stand from b on and ahead of After(b) just if they begin with b (P3.7).
func TestAfterIsTheEdge(t *testing.T) {
	all := fewBytes(5)
	for _, b := range fewBytes(3) {
		after := keyenc.After(b)
		if none := bytes.Count(b, []byte{255}) == len(b); none != (len(after) == 0) {
			t.Errorf("After(%s): %s", short(b), short(after))
		}
		for _, x := range all {
			in := bytes.Compare(b, x) <= 0 && (len(after) == 0 || bytes.Compare(x, after) < 0)
			if begins := bytes.HasPrefix(x, b); len(after) != 0 && in != begins || begins && !in {
				t.Errorf("After(%s): %s, and %s", short(b), short(after), short(x))
			}
		}
	}
}

// TestAfterIsTheLeast: no bytes ahead of After(b) stand behind all that begin with b (P3.3).
func TestAfterIsTheLeast(t *testing.T) {
	for _, b := range fewBytes(4) {
		after := keyenc.After(b)
		end := append(slices.Clone(b), bytes.Repeat([]byte{255}, 8)...)
		for _, x := range fewBytes(5) {
			if len(after) != 0 && bytes.Compare(end, x) < 0 && bytes.Compare(x, after) < 0 {
				t.Errorf("After(%s): %s, not %s", short(b), short(after), short(x))
			}
		}
	}
}

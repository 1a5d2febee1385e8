package words_test

import (
	"testing"

	"coffret/api"
	"coffret/words"
)

// TestSplitAgain: Split of the words, with a blank between each two, are these words (P9.5).
func TestSplitAgain(t *testing.T) {
	d := dice(5)
	some, full := 0, 0
	for range 20000 {
		l := words.Split(d.text(60))
		wantWords(t, "again", joined(l), l...)
		if len(l) > 1 {
			some++
		}
		if len(l) == api.MaxWords {
			full++
		}
	}
	if some < 1000 || full < 100 {
		t.Errorf("too few: %d, %d", some, full)
	}
}

// TestScoreOfItself: Score of a text with itself is how many words it has; of a text without words 0 (P9.5).
func TestScoreOfItself(t *testing.T) {
	d := dice(6)
	for range 20000 {
		s := d.text(60)
		wantScore(t, s, txt(s), s, len(words.Split(s)))
		wantScore(t, s, txt(" ,\xff日"), s, 0)
		wantScore(t, s, txt(s), " ,\xff日", 0)
	}
}

// TestScoreOfTerms: Score is the sum of what Terms tells of the words of s (P9.6).
func TestScoreOfTerms(t *testing.T) {
	d := dice(7)
	found := 0
	for range 10000 {
		v, s := d.any(3), d.text(30)
		l, e := words.Terms(v)
		if e != api.OK {
			continue
		}
		sum := 0
		for _, x := range l {
			if count(words.Split(s), x.Word) > 0 {
				sum += x.Count
			}
		}
		wantScore(t, s, v, s, sum)
		if sum > 1 {
			found++
		}
	}
	if found < 1000 {
		t.Errorf("too few: %d", found)
	}
}

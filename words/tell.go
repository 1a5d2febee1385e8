package words

import (
	"iter"

	"coffret/api"
)

// words tells a text's words, one behind another.
func words(s string) iter.Seq[string] {
	return func(tell func(string) bool) {
		left := api.MaxWords
		for row := range rows(s) {
			// Folded or not, a letter has as many bytes, so that a long row is not folded for nothing.
			if len(row) > api.MaxWord {
				continue
			}
			left--
			if !tell(fold(row)) || left == 0 {
				return
			}
		}
	}
}

// rows tells the longest rows of letters in a text, one behind another.
func rows(s string) iter.Seq[string] {
	return func(tell func(string) bool) {
		from := -1 // where the row begins within which we are
		for at, r := range s {
			letter := isLetter(r)
			switch {
			case letter && from < 0:
				from = at
			case !letter && from >= 0:
				if !tell(s[from:at]) {
					return
				}
				from = -1
			}
		}
		if from >= 0 {
			tell(s[from:])
		}
	}
}

// wordsIn tells the words of all texts in a value, one behind another.
func wordsIn(v api.Value) iter.Seq[string] {
	return func(tell func(string) bool) {
		tellTexts(v, func(s string) bool {
			for word := range words(s) {
				if !tell(word) {
					return false
				}
			}
			return true
		})
	}
}

// tellTexts tells the texts in a value, one after another; false: no more are wanted.
func tellTexts(v api.Value, tell func(string) bool) bool {
	switch v.Kind {
	case api.KindText:
		return tell(v.Text)
	case api.KindList:
		for _, x := range v.List {
			if !tellTexts(x, tell) {
				return false
			}
		}
	case api.KindDoc:
		for _, f := range v.Doc {
			if !tellTexts(f.Value, tell) {
				return false
			}
		}
	}
	return true
}

package words

import "unicode/utf8"

// isLetter tells whether words are made of a rune.
func isLetter(r rune) bool {
	switch {
	case r >= 48 && r <= 57, r >= 65 && r <= 90, r >= 97 && r <= 122:
		return true
	case r >= 192 && r <= 591:
		return r != 215 && r != 247
	}
	return r >= 880 && r <= 1279
}

// folded is the letter that stands in words for a letter.
func folded(r rune) rune {
	switch {
	case r >= 65 && r <= 90, r >= 192 && r <= 222 && r != 215, r >= 913 && r <= 939, r >= 1040 && r <= 1071:
		return r + 32
	case r >= 1024 && r <= 1039:
		return r + 80
	}
	return r
}

// fold is a row of letters, folded: new memory, for a row may be a piece of a text that was handed in.
func fold(row string) string {
	word := make([]byte, 0, len(row))
	for _, r := range row {
		word = utf8.AppendRune(word, folded(r))
	}
	return string(word)
}

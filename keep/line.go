package keep

import (
	"strconv"
	"strings"

	"amnesty/api"
)

const (
	maxNumber   = 999999999 // the greatest number of 9 digits
	receiptSize = 16        // digits of a receipt or a digest
)

// word is a word of a line. A quoted one has its text without the quotation marks.
type word struct {
	text   string
	quoted bool
}

// wordsOf returns the words of a line; none if the line is not well formed.
func wordsOf(line string) []word {
	if len(line) > api.MaxText || !isPlain(line) {
		return nil
	}
	var list []word
	rest := skip(line)
	for rest != "" {
		next, behind, ok := cutWord(rest)
		if !ok || behind != "" && behind[0] != ' ' {
			return nil
		}
		list = append(list, next)
		rest = skip(behind)
	}
	return list
}

// skip returns what stands behind the spaces with which a line begins.
func skip(line string) string {
	return strings.TrimLeft(line, " ")
}

// cutWord returns the word with which a line begins, and what stands behind it; it is not ok if the word's quotation mark is not closed.
func cutWord(line string) (w word, behind string, ok bool) {
	if inner, quoted := strings.CutPrefix(line, `"`); quoted {
		text, behind, closed := strings.Cut(inner, `"`)
		return word{text, true}, behind, closed
	}
	end := strings.IndexAny(line, ` "`)
	if end < 0 {
		end = len(line)
	}
	return word{text: line[:end]}, line[end:], true
}

// takes returns what stands behind a first word: a letter for each word, as the table of P6.2 has it, but K for each name and X for each coordinate.
func takes(first string) string {
	switch first {
	case "put":
		return "KXXLT"
	case "drop", "get", "rank", "proof", "receipt":
		return "K"
	case "hold", "free", "span":
		return "KK"
	case "ask":
		return "Q"
	case "in":
		return "XXXX"
	case "near", "vote":
		return "XXN"
	case "guess":
		return "XX"
	case "check":
		return "KR"
	}
	return ""
}

// fit reports whether words are allowed where these letters stand.
func fit(list []word, letters string) bool {
	if len(list) != len(letters) {
		return false
	}
	for i, letter := range letters {
		if !list[i].fits(letter) {
			return false
		}
	}
	return true
}

// fits reports whether a word is allowed where a letter stands. (Of a question find tells whether it is.)
func (w word) fits(letter rune) bool {
	switch letter {
	case 'K':
		return !w.quoted && isName(w.text)
	case 'X':
		return !w.quoted && isNumber(w.text, 0, api.MaxX)
	case 'L':
		return !w.quoted && isNumber(w.text, 0, api.Labels-1)
	case 'N':
		return !w.quoted && isNumber(w.text, 1, maxNumber)
	case 'R':
		return !w.quoted && isReceipt(w.text)
	case 'T':
		return w.quoted && isText(w.text)
	}
	return w.quoted
}

// number returns the number that a word is which is allowed as one.
func (w word) number() int {
	number, _ := strconv.Atoi(w.text)
	return number
}

// isNumber reports whether a text is a number within bounds. Signs, and zeros ahead, are read by strconv, but not written by it.
func isNumber(text string, least, most int) bool {
	number, err := strconv.Atoi(text)
	return err == nil && strconv.Itoa(number) == text && least <= number && number <= most
}

// isReceipt reports whether a text has the form of a receipt.
func isReceipt(text string) bool {
	return len(text) == receiptSize && strings.Trim(text, "0123456789abcdef") == ""
}

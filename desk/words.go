package desk

import (
	"strconv"
	"strings"

	"amnesty/api"
)

const (
	leastCells = 8         // the least number of cells of a disk
	mostNumber = 999999999 // the greatest number of 9 digits
	seedSize   = 16        // digits of a seed, or of a look
	letters    = "abcdefghijklmnopqrstuvwxyz"
	figures    = "0123456789"
)

// notAllowed is what a command panics with whose line is not allowed.
type notAllowed struct{}

// allow breaks a command off, unless its line is allowed so far.
func allow(so bool) {
	if !so {
		panic(notAllowed{})
	}
}

// words are those of a line that were not taken yet. No quoted word stands in a line of this chapter, but for what is handed to a store as it is: so words are what stands between spaces, and one with a quotation mark is not allowed, wherever it stands.
type words struct {
	rest string // begins with a word, unless it is empty
}

// wordsOf returns the words of a line.
func wordsOf(line string) *words {
	allow(len(line) <= api.MaxText)
	for i := range len(line) {
		allow(32 <= line[i] && line[i] <= 126)
	}
	return &words{skip(line)}
}

// skip returns what stands behind the spaces with which a text begins.
func skip(text string) string {
	return strings.TrimLeft(text, " ")
}

// next takes a word; it has no bytes if there is none.
func (w *words) next() string {
	word, behind, _ := strings.Cut(w.rest, " ")
	w.rest = skip(behind)
	return word
}

// ended reports whether there are no more words.
func (w *words) ended() bool {
	return w.rest == ""
}

// end allows no more words.
func (w *words) end() {
	allow(w.ended())
}

// name takes the name of a place.
func (w *words) name() string {
	word := w.next()
	allow(1 <= len(word) && len(word) <= api.MaxRecord && consistsOf(word, letters+figures))
	return word
}

// seed takes a seed.
func (w *words) seed() uint64 {
	word := w.next()
	allow(len(word) == seedSize && consistsOf(word, figures+"abcdef"))
	seed, _ := strconv.ParseUint(word, 16, 64)
	return seed
}

// number takes a number within bounds. Signs, and zeros ahead, are read by strconv, but not written by it.
func (w *words) number(least, most int) int {
	word := w.next()
	number, err := strconv.Atoi(word)
	allow(err == nil && strconv.Itoa(number) == word && least <= number && number <= most)
	return number
}

// power takes what a line ends with that may tell when the power fails: behind so many writes, and so many bytes of the next one; or nothing, if it does not fail.
func (w *words) power() (power, torn int) {
	if w.ended() {
		return -1, 0
	}
	power = w.number(0, mostNumber)
	torn = w.number(0, mostNumber)
	w.end()
	return power, torn
}

// consistsOf reports whether a word has no bytes but these.
func consistsOf(word, bytes string) bool {
	for i := range len(word) {
		if strings.IndexByte(bytes, word[i]) < 0 {
			return false
		}
	}
	return true
}

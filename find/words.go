package find

import (
	"bytes"
	"slices"
	"strings"

	"amnesty/api"
	"amnesty/order"
)

// Split returns the words of a text.
func Split(text string) []string {
	var words []string
	begin := -1 // of the word within which the range is; below 0 between words
	for at, letter := range text {
		switch {
		case !inWord(letter):
			if begin >= 0 {
				words = append(words, wordOf(text[begin:at]))
			}
			begin = -1
		case begin < 0:
			begin = at
		}
	}
	if begin >= 0 {
		words = append(words, wordOf(text[begin:]))
	}
	return words
}

// inWord reports whether a letter belongs to words, which those beyond ASCII do not.
func inWord(letter rune) bool {
	return 'a' <= letter && letter <= 'z' || 'A' <= letter && letter <= 'Z' || '0' <= letter && letter <= '9'
}

// wordOf returns the word that a part of a text counts as.
func wordOf(part string) string {
	return strings.ToLower(part[:min(len(part), api.MaxWord)])
}

// Words is an index of texts by their words.
type Words struct {
	// The pairs of P4.5 are all that there is: nothing beside them could tell of a text that went. They lie behind a pointer: so a Words that a caller copies is the same index still, as an order.Map is.
	pairs *order.Map
}

// NewWords returns an empty index.
func NewWords(seed uint64) *Words {
	return &Words{order.New(seed)}
}

// Add adds a text under a number.
func (w *Words) Add(id uint64, text string) api.Errno {
	pairs := w.content()
	if pairs == nil || len(text) > api.MaxText {
		return api.ErrArg
	}
	if _, err := pairs.Get(textKey(id)); err == api.OK {
		return api.ErrTwice
	}
	if w.Len() >= api.MaxItems {
		return api.ErrFull
	}
	words := Split(text)
	for at, word := range words {
		key := wordKey(word, id)
		value, _ := pairs.Get(key)
		pairs.Put(key, appendBig(value, uint64(at), placeSize))
	}
	pairs.Put(textKey(id), appendBig(nil, uint64(len(words)), placeSize))
	return api.OK
}

// Drop takes a text out.
func (w *Words) Drop(id uint64) api.Errno {
	pairs := w.content()
	if pairs == nil {
		return api.ErrArg
	}
	end := textKey(id)
	if _, err := pairs.Get(end); err != api.OK {
		return api.ErrNone
	}
	for key := range pairs.All() {
		if bytes.HasSuffix(key, end) {
			pairs.Drop(key)
		}
	}
	return api.OK
}

// Len returns the number of texts.
func (w *Words) Len() int {
	return w.content().Rank([]byte{1})
}

// Ask returns the numbers of the texts that answer a question, in rising order.
func (w *Words) Ask(question string) (numbers []uint64, err api.Errno) {
	defer func() {
		if recover() != nil {
			numbers, err = nil, api.ErrForm
		}
	}()
	return readQuestion(question).texts(w.content()), api.OK
}

// Image returns the bytes of the index.
func (w *Words) Image() []byte {
	return w.content().Image()
}

// content returns the pairs of the index; there are none in an index that is nil, or the zero value.
func (w *Words) content() *order.Map {
	if w == nil {
		return nil
	}
	return w.pairs
}

// textKey returns the key of a text's pair. It begins with a zero byte, with which no word begins.
func textKey(id uint64) []byte {
	return appendBig([]byte{0}, id, numberSize)
}

// wordKey returns the key of the pair of a word of a text. It ends with the key of the text.
func wordKey(word string, id uint64) []byte {
	return slices.Concat([]byte(word), textKey(id))
}

// beginWith returns the numbers of the pairs whose keys begin with a text, which may not end with a byte 255, in the order of the keys.
func beginWith(pairs *order.Map, begin string) []uint64 {
	high := []byte(begin)
	high[len(high)-1]++
	var numbers []uint64
	for _, pair := range pairs.Span([]byte(begin), high, true) {
		numbers = append(numbers, numberOf(pair.Key))
	}
	return numbers
}

// everyText returns the numbers of all texts, in rising order.
func everyText(pairs *order.Map) []uint64 {
	return beginWith(pairs, "\x00")
}

// placesOf returns where a word stands in a text, in rising order.
func placesOf(pairs *order.Map, word string, id uint64) []uint64 {
	value, _ := pairs.Get(wordKey(word, id))
	var places []uint64
	for place := range slices.Chunk(value, placeSize) {
		places = append(places, big(place))
	}
	return places
}

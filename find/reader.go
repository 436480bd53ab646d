package find

import (
	"strings"

	"amnesty/api"
)

// maxDepth is in how many parentheses and "!" a part may stand.
const maxDepth = 50

const blanks = " \t"

// malformed is what a reader panics with.
type malformed struct{}

// reader reads a question. Its methods panic where the question is not well formed: so none of them has to look whether those that it calls went well.
type reader struct {
	rest  string // what is not read yet
	depth int    // in how many parentheses and "!" the next part stands
}

// readQuestion returns the part that a whole question is.
func readQuestion(question string) part {
	must(len(question) <= api.MaxText)
	r := &reader{rest: question}
	whole := r.or()
	must(r.rest == "")
	return whole
}

// must panics unless what a well-formed question needs is so.
func must(so bool) {
	if !so {
		panic(malformed{})
	}
}

// skip skips blanks.
func (r *reader) skip() {
	r.rest = strings.TrimLeft(r.rest, blanks)
}

// take reads a mark if it follows at once, and reports whether it does.
func (r *reader) take(mark string) bool {
	rest, follows := strings.CutPrefix(r.rest, mark)
	r.rest = rest
	return follows
}

// or reads parts between which "|" stands.
func (r *reader) or() part {
	parts := anyOf{r.and()}
	for r.take("|") {
		next := r.and()
		parts = append(parts, next)
	}
	return parts
}

// and reads parts that follow each other, and the blanks behind them.
func (r *reader) and() part {
	parts := allOf{r.not()}
	for !r.endsAnd() {
		next := r.not()
		parts = append(parts, next)
	}
	return parts
}

// endsAnd skips blanks, and reports whether no further part follows them.
func (r *reader) endsAnd() bool {
	r.skip()
	return r.rest == "" || r.rest[0] == '|' || r.rest[0] == ')'
}

// not reads a part, or "!" and what it belongs to.
func (r *reader) not() part {
	r.skip()
	if r.take("!") {
		return not{r.within(r.not)}
	}
	return r.part()
}

// part reads a part that begins at once.
func (r *reader) part() part {
	switch {
	case r.take("("):
		inner := r.within(r.or)
		must(r.take(")"))
		return inner
	case r.take(`"`):
		return r.phrase()
	}
	w := r.word()
	if r.take("*") {
		return beginning(w)
	}
	return oneWord(w)
}

// within reads, with a method of the reader, what stands in a parenthesis or behind a "!".
func (r *reader) within(read func() part) part {
	r.depth++
	must(r.depth <= maxDepth)
	inner := read()
	r.depth--
	return inner
}

// phrase reads the words of a phrase, and the quotation mark behind them.
func (r *reader) phrase() part {
	var words phrase
	r.skip()
	for !r.take(`"`) {
		next := r.word()
		words = append(words, next)
		r.skip()
	}
	return words
}

// word reads a word that begins at once.
func (r *reader) word() string {
	size := 0
	for size < len(r.rest) && inWord(rune(r.rest[size])) {
		size++
	}
	must(1 <= size && size <= api.MaxWord)
	w := wordOf(r.rest[:size])
	r.rest = r.rest[size:]
	return w
}

package find

import (
	"slices"

	"amnesty/order"
)

// part is a part of a question.
type part interface {
	// texts returns the numbers of the texts, of those with some pairs, that answer the part: in rising order, each once.
	texts(pairs *order.Map) []uint64
}

// The parts of questions, as P4.3 has them.
type (
	oneWord   string
	beginning string
	phrase    []string
	not       struct{ inner part }
	allOf     []part
	anyOf     []part
)

func (w oneWord) texts(pairs *order.Map) []uint64 {
	return beginWith(pairs, string(w)+"\x00")
}

func (b beginning) texts(pairs *order.Map) []uint64 {
	return rising(beginWith(pairs, string(b)))
}

func (p phrase) texts(pairs *order.Map) []uint64 {
	if len(p) == 0 {
		return everyText(pairs)
	}
	fails := func(id uint64) bool { return !p.standsIn(pairs, id) }
	return slices.DeleteFunc(oneWord(p[0]).texts(pairs), fails)
}

// standsIn reports whether the words of the phrase, which has some, stand one behind another in a text.
func (p phrase) standsIn(pairs *order.Map, id uint64) bool {
	begins := placesOf(pairs, p[0], id)
	for i, w := range p {
		places := placesOf(pairs, w, id)
		fails := func(begin uint64) bool { return !holds(places, begin+uint64(i)) }
		begins = slices.DeleteFunc(begins, fails)
	}
	return len(begins) > 0
}

func (n not) texts(pairs *order.Map) []uint64 {
	others := n.inner.texts(pairs)
	fails := func(id uint64) bool { return holds(others, id) }
	return slices.DeleteFunc(everyText(pairs), fails)
}

func (a allOf) texts(pairs *order.Map) []uint64 {
	numbers := everyText(pairs)
	for _, p := range a {
		answers := p.texts(pairs)
		fails := func(id uint64) bool { return !holds(answers, id) }
		numbers = slices.DeleteFunc(numbers, fails)
	}
	return numbers
}

func (a anyOf) texts(pairs *order.Map) []uint64 {
	var numbers []uint64
	for _, p := range a {
		numbers = append(numbers, p.texts(pairs)...)
	}
	return rising(numbers)
}

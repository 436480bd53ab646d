package keep

import (
	"strconv"
	"strings"

	"amnesty/api"
	"amnesty/slots"
)

// tagReceipt is the tag of the coins that receipts are.
const tagReceipt = 6

func (s *Store) get(w []word) string {
	r, there := s.find(w[0].text)
	if !there {
		return none
	}
	return r.told()
}

func (s *Store) count([]word) string {
	return strconv.Itoa(s.Len())
}

func (s *Store) rank(w []word) string {
	return strconv.Itoa(s.records.Rank([]byte(w[0].text)))
}

func (s *Store) span(w []word) string {
	var keys []string
	for _, pair := range s.records.Span([]byte(w[0].text), []byte(w[1].text), true) {
		keys = append(keys, string(pair.Key))
	}
	return joined(keys, " ")
}

func (s *Store) ask(w []word) string {
	return keysAnswer(s.words.Ask(strings.ReplaceAll(w[0].text, "'", `"`)))
}

func (s *Store) in(w []word) string {
	return keysAnswer(s.boxes.Touch(api.Box{X0: w[0].number(), Y0: w[1].number(), X1: w[2].number(), Y1: w[3].number()}))
}

func (s *Store) near(w []word) string {
	return keysAnswer(s.boxes.Near(w[0].number(), w[1].number(), w[2].number()))
}

func (s *Store) line([]word) string {
	slope, base, err := s.model.Line(0, 1)
	if err != api.OK {
		return none
	}
	return fraction(slope) + " " + fraction(base)
}

func (s *Store) vote(w []word) string {
	return labelAnswer(s.model.Vote(columns(w[0].number(), w[1].number()), w[2].number()))
}

func (s *Store) guess(w []word) string {
	return labelAnswer(s.model.Guess(columns(w[0].number(), w[1].number())))
}

func (s *Store) view([]word) string {
	var x, y [api.Labels]int
	for key, value := range s.records.All() {
		r, _ := recordOf(key, value)
		x[r.label] += r.x
		y[r.label] += r.y
	}
	var views []string
	for label, n := range s.model.Counts() {
		if n > 0 {
			views = append(views, spaced(label, n, x[label], y[label]))
		}
	}
	return joined(views, "; ")
}

func (s *Store) digest([]word) string {
	return digits(s.records.Digest())
}

func (s *Store) proof(w []word) string {
	answer := "missing "
	if _, there := s.find(w[0].text); there {
		answer = "there "
	}
	return answer + strconv.Itoa(len(s.records.Prove([]byte(w[0].text))))
}

func (s *Store) receipt(w []word) string {
	return digits(slots.Coin(s.seed, tagReceipt, []byte(w[0].text)))
}

func (s *Store) check(w []word) string {
	if w[1].text != s.receipt(w) {
		return "false"
	}
	if _, there := s.find(w[0].text); there {
		return "there"
	}
	return gone
}

// keysAnswer returns the answer of a question that an index has answered with numbers of keys, or refused.
func keysAnswer(numbers []uint64, err api.Errno) string {
	if err != api.OK {
		return bad
	}
	var keys []string
	for _, number := range numbers {
		keys = append(keys, keyOf(number))
	}
	return joined(keys, " ")
}

// labelAnswer returns the answer of a question that the model has answered with a label, or not.
func labelAnswer(label int, err api.Errno) string {
	if err != api.OK {
		return none
	}
	return strconv.Itoa(label)
}

// joined returns texts with a mark between them, or what is answered if there are none.
func joined(texts []string, mark string) string {
	if len(texts) == 0 {
		return "-"
	}
	return strings.Join(texts, mark)
}

// spaced returns numbers with spaces between them.
func spaced(numbers ...int) string {
	var texts []string
	for _, number := range numbers {
		texts = append(texts, strconv.Itoa(number))
	}
	return strings.Join(texts, " ")
}

// fraction returns a fraction as the answer of line has it.
func fraction(f api.Frac) string {
	return strconv.FormatInt(f.Num, 10) + "/" + strconv.FormatInt(f.Den, 10)
}

// digits returns a number of 64 bits in hexadecimal digits, with zeros ahead.
func digits(number uint64) string {
	short := strconv.FormatUint(number, 16)
	return strings.Repeat("0", receiptSize-len(short)) + short
}

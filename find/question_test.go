package find_test

import (
	"math/rand"
	"slices"
	"strings"
	"testing"

	"amnesty/api"
	"amnesty/find"
)

// example has the texts of the chapter's second example.
var example = texts{1: "red fox runs", 2: "The RED house", 3: "fox in a red house"}

func TestP4_3Example(t *testing.T) {
	w := example.index(t, 4)
	checkAsk(t, w, "red", 1, 2, 3)
	checkAsk(t, w, "fox house", 3)
	checkAsk(t, w, "fox | house", 1, 2, 3)
	checkAsk(t, w, "!fox", 2)
	checkAsk(t, w, "ho*", 2, 3)
	checkAsk(t, w, `"red house"`, 2, 3)
	checkAsk(t, w, `"house red"`)
	checkAsk(t, w, `""`, 1, 2, 3)
	checkAsk(t, w, "!(fox | the)")
	checkAsk(t, w, "red !fox | in", 2, 3)
	for _, question := range []string{"", "fox |", "*", "(fox"} {
		checkForm(t, w, question)
	}
}

func TestP4_3Words(t *testing.T) {
	w := texts{1: "a ab abc", 2: "ab", 3: "A1 1a", 4: "abcd b", 5: ""}.index(t, 4)
	checkAsk(t, w, "a", 1)
	checkAsk(t, w, "A", 1)
	checkAsk(t, w, "ab", 1, 2)
	checkAsk(t, w, "aB", 1, 2)
	checkAsk(t, w, "abc", 1)
	checkAsk(t, w, "b", 4)
	checkAsk(t, w, "c")
	checkAsk(t, w, "1")
	checkAsk(t, w, "1A", 3)
	checkAsk(t, w, "abcde")
	checkAsk(t, w, "zzz")
	checkAsk(t, w, "0")
}

func TestP4_3Beginnings(t *testing.T) {
	w := texts{1: "a ab abc", 2: "ab", 3: "A1 1a", 4: "abcd b zz", 5: "", 6: "9 z9"}.index(t, 4)
	checkAsk(t, w, "a*", 1, 2, 3, 4)
	checkAsk(t, w, "AB*", 1, 2, 4)
	checkAsk(t, w, "abc*", 1, 4)
	checkAsk(t, w, "abcd*", 4)
	checkAsk(t, w, "abcde*")
	checkAsk(t, w, "b*", 4)
	checkAsk(t, w, "c*")
	checkAsk(t, w, "1*", 3)
	checkAsk(t, w, "9*", 6)
	checkAsk(t, w, "z*", 4, 6)
	checkAsk(t, w, "zz*", 4)
	checkAsk(t, w, "0*")
}

func TestP4_3Phrases(t *testing.T) {
	w := texts{1: "a b a c", 2: "a a b", 3: "b, A!", 4: "", 5: "ab a-b", 6: "a c b a a c"}.index(t, 4)
	checkAsk(t, w, `"a b"`, 1, 2, 5)
	checkAsk(t, w, `"b a"`, 1, 3, 6)
	checkAsk(t, w, `"a a"`, 2, 6)
	checkAsk(t, w, `"a a a"`)
	checkAsk(t, w, `"a b a"`, 1)
	checkAsk(t, w, `"a b a c"`, 1)
	checkAsk(t, w, `"a b a c a"`)
	checkAsk(t, w, `"a a c"`, 6)
	checkAsk(t, w, `"b a c"`, 1)
	checkAsk(t, w, `"A"`, 1, 2, 3, 5, 6)
	checkAsk(t, w, `"d"`)
	checkAsk(t, w, `"a d"`)
	checkAsk(t, w, `"d a"`)
	checkAsk(t, w, `"ab a b"`, 5)
	checkAsk(t, w, "\" \tA\t \t b \"", 1, 2, 5)
	for _, question := range []string{`""`, `" "`, "\"\t \"", `"""" ""`} {
		checkAsk(t, w, question, 1, 2, 3, 4, 5, 6)
	}
	checkAsk(t, w, `!""`)
}

// TestP4_3LongPhrases: phrases of texts of 300 words, whose places have two bytes.
func TestP4_3LongPhrases(t *testing.T) {
	all := strings.Repeat("a ", api.MaxText/2)
	w := texts{1: all, 2: strings.Repeat("a ", 298) + "b a", 3: strings.Repeat("a ", 255) + "b a b", 4: strings.Repeat("b a ", 150)}.index(t, 4)
	checkAsk(t, w, `"`+strings.Repeat("a ", 299)+`"`, 1)
	checkAsk(t, w, `"`+strings.Repeat("a ", 298)+`"`, 1, 2)
	checkAsk(t, w, `"`+strings.Repeat("a ", 255)+`b"`, 2, 3)
	checkAsk(t, w, `"b a b"`, 3, 4)
	checkAsk(t, w, `"b a `+strings.Repeat("b a ", 148)+`"`, 4)
}

// TestP4_3CutWords: a word that is cut is cut everywhere; in questions none may be longer.
func TestP4_3CutWords(t *testing.T) {
	w := texts{1: alphabet[:25] + " z", 2: alphabet[:20] + " z", 3: alphabet[:19] + " z"}.index(t, 4)
	checkAsk(t, w, alphabet[:20], 1, 2)
	checkAsk(t, w, alphabet[:20]+"*", 1, 2)
	checkAsk(t, w, alphabet[:19], 3)
	checkAsk(t, w, alphabet[:19]+"*", 1, 2, 3)
	checkAsk(t, w, `"`+alphabet[:20]+` z"`, 1, 2)
	checkAsk(t, w, `"`+strings.ToUpper(alphabet[:19])+` z"`, 3)
	for _, long := range []string{alphabet[:21], alphabet, strings.Repeat("7", 500)} {
		checkForm(t, w, long)
		checkForm(t, w, long+"*")
		checkForm(t, w, `"`+long+`"`)
		checkForm(t, w, `"z `+long+` z"`)
		checkForm(t, w, "z | !("+long+")")
	}
}

func TestP4_3NotAndOr(t *testing.T) {
	w := texts{1: "a", 2: "b", 3: "a b", 4: "", 5: "c"}.index(t, 4)
	checkAsk(t, w, "a b", 3)
	checkAsk(t, w, "b a", 3)
	checkAsk(t, w, "a | b", 1, 2, 3)
	checkAsk(t, w, "a|b|c", 1, 2, 3, 5)
	checkAsk(t, w, "!a", 2, 4, 5)
	checkAsk(t, w, "!!a", 1, 3)
	checkAsk(t, w, "!!!a", 2, 4, 5)
	checkAsk(t, w, "!a b", 2)
	checkAsk(t, w, "!(a b)", 1, 2, 4, 5)
	checkAsk(t, w, "!a | b", 2, 3, 4, 5)
	checkAsk(t, w, "!(a | b)", 4, 5)
	checkAsk(t, w, "!a !b", 4, 5)
	checkAsk(t, w, "a b | c", 3, 5)
	checkAsk(t, w, "c | a b", 3, 5)
	checkAsk(t, w, "a (b | c)", 3)
	checkAsk(t, w, "(a | c) (b | c)", 3, 5)
	checkAsk(t, w, "a !a")
	checkAsk(t, w, "a | !a", 1, 2, 3, 4, 5)
	checkAsk(t, w, "a a", 1, 3)
	checkAsk(t, w, "a | a", 1, 3)
	checkAsk(t, w, `"" !a`, 2, 4, 5)
}

// TestP4_3Blanks: where they may stand, and where they must.
func TestP4_3Blanks(t *testing.T) {
	w := texts{1: "a", 2: "b", 3: "a b", 4: "ab c", 5: ""}.index(t, 4)
	for _, question := range []string{"a b", " a  b ", "\ta\tb\t", "(a)b", "a(b)", "(a)(b)", ` "a"b `, `a"b"`, `"a""b"`, "a !!b", "a!!b", "!!a b", `"a"(b)`, "( ( a ) \t b )", "! ! a b"} {
		checkAsk(t, w, question, 3)
	}
	for _, question := range []string{"a*b", "a* b", " a*\tb ", "a*(b)", "(a*)b", `a*"b"`, "b a*", "b(a*)"} {
		checkAsk(t, w, question, 3)
	}
	checkAsk(t, w, "a*b*", 3)
	checkAsk(t, w, "a*b|c", 3, 4)
	checkAsk(t, w, "a*!b", 1, 4)
	checkAsk(t, w, "ab", 4)
	for _, question := range []string{"a|b", " a | b ", "a\t|\tb", "(a)|(b)", "(a|b)", `"a"|"b"`, "( a|b ) "} {
		checkAsk(t, w, question, 1, 2, 3)
	}
	for _, question := range []string{"a\nb", "a\rb", "a\vb", "a\fb", "a\u00a0b", "a\x00b", "\na", "a\n", "\"a\nb\""} {
		checkForm(t, w, question)
	}
}

func TestP4_3NotWellFormed(t *testing.T) {
	w := example.index(t, 4)
	for _, question := range []string{
		"", " ", "\t \t", "()", "( )", "(())", "!", "!!", "a !", "! | a", "!)", "(!)",
		"|", "a |", "| a", "a || b", "a | | b", "(a |)", "(| a)", "(a", "a)", "((a)", "(a))", ")", "(", ")(", "a(", "a()", "a b)",
		"*", "**", "a**", "a *", "a\t*", " *a", "*a", "(a)*", "a* *", "!*", `"a"*`, "(*)",
		`"`, `"a`, `a"`, `"a" "`, `"""`, `"a*"`, `"*"`, `"a|b"`, `"!a"`, `"(a)"`, `"a-b"`, `"a" b"`, "\"a",
		"a-b", "a,b", "a.", "'a'", "a_b", "a&b", "a~", "+a", "a\x00", "\x00", "\x00a", "caf\xe9", "caf\u00e9", "\u212a", "mi\u017fs", "\xff", "a\x80b", "`a`", "{a}", "[a]", "@", ":", "/",
	} {
		checkForm(t, w, question)
	}
}

// TestP4_3EachByte: one byte, alone and between two words.
func TestP4_3EachByte(t *testing.T) {
	w := texts{1: "a", 2: "a b", 3: "A"}.index(t, 2)
	for c := range 256 {
		mark := string([]byte{byte(c)})
		for _, question := range []string{mark, "a " + mark + " b"} {
			_, e := w.Ask(question)
			if well := isLetter(byte(c)) || len(question) > 1 && strings.Contains(" \t!|", mark); well != (e == api.OK) {
				t.Errorf("Ask(%q): %d", question, e)
			}
		}
	}
}

func TestP4_3Nesting(t *testing.T) {
	w := example.index(t, 4)
	within := func(marks, part string) string {
		return marks + part + strings.Repeat(")", strings.Count(marks, "("))
	}
	for _, part := range []string{"fox", "fo*", `"fox"`} {
		for _, marks := range []string{strings.Repeat("!", 50), strings.Repeat("(", 50), strings.Repeat("!(", 25), strings.Repeat("(!", 25), strings.Repeat("!", 26) + strings.Repeat("(", 24)} {
			want := []uint64{1, 3}
			if strings.Count(marks, "!")%2 == 1 {
				want = []uint64{2}
			}
			checkAsk(t, w, within(marks, part), want...)
			checkAsk(t, w, within(marks, part)+" "+within(marks, part), want...)
			checkAsk(t, w, part+"|"+within(marks, part)+"!!(red)|"+part, slices.Compact(slices.Sorted(slices.Values(append(want, 1, 3))))...)
			for _, more := range []string{"!", "("} {
				checkForm(t, w, within(marks+more, part))
				checkForm(t, w, within(more+marks, part))
				checkForm(t, w, part+"|"+within(marks+more, part))
			}
		}
	}
	checkForm(t, w, strings.Repeat("(", 600))
	checkForm(t, w, strings.Repeat("!", 600))
	checkForm(t, w, strings.Repeat("(!", 300))
	checkForm(t, w, strings.Repeat("(", 299)+"aa"+strings.Repeat(")", 299))
}

// TestP4_3NestingBehindDeepParts: how deep a part stood does not count for those behind it.
func TestP4_3NestingBehindDeepParts(t *testing.T) {
	w := example.index(t, 4)
	deep := strings.Repeat("(!", 25) + "fox" + strings.Repeat(")", 25)
	checkAsk(t, w, deep+deep+" "+deep+"|"+deep, 2)
	checkAsk(t, w, "("+deep[1:len(deep)-1]+") red", 2)
	checkForm(t, w, "fox ("+deep+")")
	checkForm(t, w, "("+deep+") fox")
}

func TestP4_4Length(t *testing.T) {
	w := texts{1: "a", 2: "b"}.index(t, 4)
	most := strings.Repeat("a ", api.MaxText/2)
	checkAsk(t, w, most, 1)
	checkAsk(t, w, most[1:]+"a", 1)
	checkAsk(t, w, strings.Repeat("a|", api.MaxText/2-1)+"a", 1)
	checkAsk(t, w, strings.Repeat(" ", api.MaxText-1)+"b", 2)
	checkAsk(t, w, "b"+strings.Repeat("\t", api.MaxText-1), 2)
	checkAsk(t, w, strings.Repeat(`""`, api.MaxText/2), 1, 2)
	for _, question := range []string{most + " ", most + "a", " " + most, strings.Repeat(" ", api.MaxText) + "b", strings.Repeat("a ", 1000000), strings.Repeat("(", 1000000)} {
		checkForm(t, w, question)
	}
}

func TestP4_4Order(t *testing.T) {
	w := find.NewWords(3)
	content := texts{}
	for _, id := range []uint64{1 << 63, 256, 255, 0, 1<<64 - 1, 65536, 1, 7} {
		content[id] = "a" + string(alphabet[id%26]) + " " + string(alphabet[id%7])
		addText(t, w, id, content[id])
	}
	checkAsk(t, w, "a*", 0, 1, 7, 255, 256, 65536, 1<<63, 1<<64-1)
	checkAsk(t, w, "!zz", 0, 1, 7, 255, 256, 65536, 1<<63, 1<<64-1)
	checkAsk(t, w, "b|a|c|d|e|f|g", 0, 1, 7, 255, 256, 65536, 1<<63, 1<<64-1)
}

// TestP4_4EmptyIndex: an index without texts has the same errors.
func TestP4_4EmptyIndex(t *testing.T) {
	w := find.NewWords(3)
	for _, question := range []string{"a", "a*", `""`, "!a", "a | !a"} {
		checkAsk(t, w, question)
	}
	checkForm(t, w, "")
	checkForm(t, w, "(a")
}

// TestT2Questions: many questions to many indexes, answered as by a list of the texts.
func TestT2Questions(t *testing.T) {
	words := []string{"a", "ab", "abc", "b", "ba", "1", "1a", "z", alphabet[:20], alphabet[:19]}
	others := slices.Concat(words, []string{alphabet, "c"})
	for seed := range uint64(40) {
		r := rand.New(rand.NewSource(int64(seed)))
		content := texts{}
		for range r.Intn(30) {
			text := ""
			for range r.Intn(8) {
				text += mixed(r, others[r.Intn(len(others))]) + []string{" ", ", ", "-", "\u00e9"}[r.Intn(4)]
			}
			content[uint64(r.Intn(60))] = text
		}
		w := content.index(t, seed)
		for range 300 {
			a := anyAsked(r, words, r.Intn(4))
			question := blank(r, 0) + a.write(r) + blank(r, 0)
			if len(question) <= api.MaxText {
				checkAsk(t, w, question, content.ask(a)...)
			}
		}
	}
}

// grammar follows the rules of P4.3 one by one: each of its functions returns where, behind a place in a text, what it is named for may end.
type grammar string

// over calls a rule at each of some places, and returns all places where it may end.
func over(from []int, rule func(at int) []int) []int {
	var ends []int
	for _, at := range from {
		ends = append(ends, rule(at)...)
	}
	slices.Sort(ends)
	return slices.Compact(ends)
}

// mark is one byte.
func (g grammar) mark(c byte) func(at int) []int {
	return func(at int) []int {
		if at < len(g) && g[at] == c {
			return []int{at + 1}
		}
		return nil
	}
}

// blanks are as many as there are.
func (g grammar) blanks(at int) []int {
	for at < len(g) && (g[at] == ' ' || g[at] == '\t') {
		at++
	}
	return []int{at}
}

func (g grammar) word(at int) []int {
	end := at
	for end < len(g) && isLetter(g[end]) {
		end++
	}
	if end == at || end > at+20 {
		return nil
	}
	return []int{end}
}

func (g grammar) words(at int) []int {
	ends := []int{at}
	for from := ends; len(from) > 0; {
		from = over(over(from, g.word), g.blanks)
		ends = append(ends, from...)
	}
	return ends
}

func (g grammar) part(at int) []int {
	word := g.word(at)
	begin := over(word, g.mark('*'))
	phrase := over(over(over(g.mark('"')(at), g.blanks), g.words), g.mark('"'))
	nested := over(over(over(over(g.mark('(')(at), g.blanks), g.or), g.blanks), g.mark(')'))
	return slices.Concat(word, begin, phrase, nested)
}

func (g grammar) not(at int) []int {
	return slices.Concat(g.part(at), over(over(g.mark('!')(at), g.blanks), g.not))
}

func (g grammar) and(at int) []int {
	ends := g.not(at)
	for from := ends; len(from) > 0; {
		from = over(over(from, g.blanks), g.not)
		ends = append(ends, from...)
	}
	return ends
}

func (g grammar) or(at int) []int {
	ends := g.and(at)
	for from := ends; len(from) > 0; {
		from = over(over(over(over(from, g.blanks), g.mark('|')), g.blanks), g.and)
		ends = append(ends, from...)
	}
	return ends
}

// well reports whether a question is well formed, if it is short and not deep.
func (g grammar) well() bool {
	ends := over(over(g.blanks(0), g.or), g.blanks)
	return slices.Contains(ends, len(g))
}

// TestP4_3Grammar: all short questions of a few bytes are well formed as the grammar has it.
func TestP4_3Grammar(t *testing.T) {
	w := texts{1: "a"}.index(t, 1)
	const marks = "a*\"()|! "
	wells := 0
	var extend func(question string, more int)
	extend = func(question string, more int) {
		_, e := w.Ask(question)
		well := grammar(question).well()
		if well {
			wells++
		}
		if well && e != api.OK || !well && e != api.ErrForm {
			t.Errorf("Ask(%q): %d, well formed: %v", question, e, well)
		}
		for i := range len(marks) * min(more, 1) {
			extend(question+marks[i:i+1], more-1)
		}
	}
	extend("", 5)
	if wells < 500 {
		t.Errorf("%d questions are well formed", wells)
	}
}

// TestP4_3GrammarOfSpoiledQuestions: well-formed questions with a byte that goes, comes, or changes.
func TestP4_3GrammarOfSpoiledQuestions(t *testing.T) {
	const marks = "ab9Z*\"()|! \t-\x00\xE9'"
	r := rand.New(rand.NewSource(43))
	w := example.index(t, 1)
	for range 5000 {
		question := anyAsked(r, []string{"a", "red", "fox", alphabet[:20]}, r.Intn(3)).write(r)
		if len(question) > 60 {
			continue
		}
		at, mark := r.Intn(len(question)), marks[r.Intn(len(marks)):][:1]
		for _, spoiled := range []string{question, question[:at], question[at:], question[:at] + question[at+1:], question[:at] + mark + question[at:], question[:at] + mark + question[at+1:]} {
			_, e := w.Ask(spoiled)
			if well := grammar(spoiled).well(); well && e != api.OK || !well && e != api.ErrForm {
				t.Fatalf("Ask(%q): %d, well formed: %v", spoiled, e, well)
			}
		}
	}
}

package keep_test

import (
	"bytes"
	"fmt"
	"math/rand"
	"slices"
	"strings"
	"testing"

	"amnesty/api"
	"amnesty/find"
	"amnesty/keep"
)

// table is the table of P6.2: what stands behind each first word. K is a name, X a coordinate, L a label, N a number from 1 on, R a receipt, T a text and Q a question.
var table = map[string]string{
	"put": "KXXLT", "drop": "K", "hold": "KK", "free": "KK", "get": "K", "count": "", "rank": "K", "span": "KK", "ask": "Q", "in": "XXXX",
	"near": "XXN", "line": "", "vote": "XXN", "guess": "XX", "view": "", "digest": "", "proof": "K", "receipt": "K", "check": "KR",
}

// allowed are words that are allowed where a letter of the table stands.
var allowed = map[rune][]string{
	'K': {"a", "z", "0", "9", "azaz0909", "abcdefgh", "12345678", "put", "bad"},
	'X': {"0", "1", "9", "10", "999", "1000"},
	'L': {"0", "1", "6", "7"},
	'N': {"1", "2", "9", "1001", "300000", "999999998", "999999999"},
	'R': {"0000000000000000", "0123456789abcdef", "ffffffffffffffff", "9999999999999999"},
	'T': {`""`, `" "`, `"x"`, `"  x  y  "`, `"'"`, `"~!#$%&()*+,-./:;<=>?@[]^_{|}` + "`" + `"`, `"` + strings.Repeat("x", 200) + `"`, `"` + strings.Repeat(" ", 200) + `"`},
	'Q': {`"a"`, `" a "`, `"a*"`, `"!a"`, `"a|b c"`, `"''"`, `"' a  b '"`, `"(a | !(b c*)) 'd e'"`, `"A0zZ9"`, `"abcdefghijklmnopqrst"`},
}

// refused are words that are not.
var refused = map[rune][]string{
	'K': {"A", "aA", "Z", "abcdefghi", "123456789", "a-b", "a.", "_", "*", "a'", "/", ":", "`", "{", "@", "[", `\`, "-1"},
	'X': {"-1", "-0", "+1", "00", "01", "0001", "1001", "9999", "999999999", "1000000000", "4294967296", "4294967297", "18446744073709551616", "18446744073709551617", "1.0", "1e2", "0x1", "1_0", "a", "1a", "'1'", "-"},
	'L': {"-1", "8", "9", "00", "07", "+7", "10", "4294967296", "18446744073709551617", "a", "1.0"},
	'N': {"0", "00", "01", "-1", "+1", "1000000000", "9999999999", "0000000001", "4294967297", "18446744073709551617", "99999999999999999999999999", "a", "1_0", "0x1", "1."},
	'R': {"0", "000000000000000", "00000000000000000", "0123456789ABCDEF", "0123456789abcdeF", "0123456789abcdeg", "-123456789abcdef", "0123456789abcde'", "0x23456789abcdef"},
	'T': {`"\"`, `"a\b"`, `"` + strings.Repeat("x", 201) + `"`, `"` + strings.Repeat(" ", 201) + `"`, `"` + strings.Repeat("x", 300) + `"`},
	'Q': {`""`, `" "`, `"|"`, `"a |"`, `"| a"`, `"(a"`, `"a)"`, `"()"`, `"*"`, `"a *"`, `"!"`, `"'"`, `"'a"`, `"'a b' '"`, `"'a*'"`, `"a-b"`, `"\"`, `"abcdefghijklmnopqrstu"`, `"` + strings.Repeat("(", 51) + "a" + strings.Repeat(")", 51) + `"`},
}

func isQuoted(letter rune) bool { return letter == 'T' || letter == 'Q' }

// ordinary returns the words of an ordinary line.
func ordinary(first string) []string {
	words := []string{first}
	for _, letter := range table[first] {
		words = append(words, allowed[letter][0])
	}
	return words
}

// held is a content with a record that is held, one that is due, and one that is neither.
func held() plain {
	return plain{
		"a": entry{x: 3, y: 4, label: 2, text: "red fox"}.withHolders("court"),
		"b": entry{x: 1000, y: 0, label: 7, text: "a b c", due: true}.withHolders("me", "by"),
		"c": {x: 5, y: 5},
	}
}

// fullStore returns the content of a full store, and the store.
func fullStore(t *testing.T, seed uint64) (plain, *keep.Store) {
	t.Helper()
	p := plain{}
	for i := range 300 {
		p[fmt.Sprint("k", i)] = entry{x: i % 7, y: i % 11, label: i % 8, text: fmt.Sprint("text ", i%13)}
	}
	return p, p.store(t, seed)
}

// checkBad runs lines that are not allowed, behind which the store is as it was.
func (p plain) checkBad(t *testing.T, seed uint64, s *keep.Store, lines ...string) {
	t.Helper()
	image := s.Image()
	for _, line := range lines {
		say(t, s, line, "bad")
		if !bytes.Equal(s.Image(), image) {
			t.Fatalf("%.300q has changed the store", line)
		}
	}
	p.check(t, seed, s)
}

// TestP6_2Allowed: each word of each line at its bounds.
func TestP6_2Allowed(t *testing.T) {
	p := held()
	for first, letters := range table {
		for i, letter := range letters {
			for _, word := range allowed[letter] {
				words := ordinary(first)
				words[i+1] = word
				if first == "in" { // its points stand in order
					words = []string{"in", "0", "0", "1000", "1000"}
					words[i+1] = word
				}
				if got := p.store(t, 3).Do(strings.Join(words, " ")); got == "bad" || got == "" {
					t.Errorf("%.300q: %q", strings.Join(words, " "), got)
				}
			}
		}
	}
}

// TestP6_2Refused: each word of each line beyond its bounds.
func TestP6_2Refused(t *testing.T) {
	p := held()
	s := p.store(t, 3)
	for first, letters := range table {
		for i, letter := range letters {
			for _, word := range refused[letter] {
				words := ordinary(first)
				words[i+1] = word
				p.checkBad(t, 3, s, strings.Join(words, " "))
			}
		}
	}
}

// TestP6_2Quotes: a quoted word where a plain one has to stand, and the other way round; and first words that are quoted.
func TestP6_2Quotes(t *testing.T) {
	p := held()
	s := p.store(t, 3)
	for first, letters := range table {
		words := ordinary(first)
		words[0] = `"` + first + `"`
		p.checkBad(t, 3, s, strings.Join(words, " "))
		for i, letter := range letters {
			words := ordinary(first)
			for _, word := range allowed[letter] {
				if isQuoted(letter) {
					words[i+1] = strings.Trim(word, `"`)
				} else {
					words[i+1] = `"` + word + `"`
				}
				p.checkBad(t, 3, s, strings.Join(words, " "))
			}
		}
	}
}

// TestP6_2NumberOfWords: a word too few, and a word too many, wherever it stands.
func TestP6_2NumberOfWords(t *testing.T) {
	p := held()
	s := p.store(t, 3)
	for first := range table {
		words := ordinary(first)
		for i := range words {
			p.checkBad(t, 3, s, strings.Join(slices.Delete(slices.Clone(words), i, i+1), " "))
		}
		for i := range len(words) + 1 {
			for _, more := range []string{"a", "1", `"x"`, `""`, words[min(i, len(words)-1)]} {
				p.checkBad(t, 3, s, strings.Join(slices.Insert(slices.Clone(words), i, more), " "))
			}
		}
	}
}

func TestP6_2FirstWords(t *testing.T) {
	p := held()
	s := p.store(t, 3)
	p.checkBad(t, 3, s, "", " ", strings.Repeat(" ", 600), "a", "counts", "coun", "Count", "COUNT", "count.", "-", "0", "do count", "puts a 1 1 1 \"x\"", "lines", "store", "image", `""`, `" "`, `"count`, `"`, `count"`)
	for first := range table {
		words := ordinary(first)
		for _, other := range []string{strings.ToUpper(first), first + "s", first[1:], strings.ToUpper(first[:1]) + first[1:], "'" + first + "'"} {
			words[0] = other
			p.checkBad(t, 3, s, strings.Join(words, " "))
		}
	}
}

// TestP6_2Examples5: the chapter's fifth example.
func TestP6_2Examples5(t *testing.T) {
	plain{}.checkBad(t, 1, keep.Open(1), `put A 1 1 1 "x"`, `put a 1 1 1 x`, `put a 01 1 1 "x"`, `put a 1 1 8 "x"`, `get "a"`, "count 1", "near 1 1 0", "   ")
}

// TestP6_2Spaces: one or more between words, some at both ends.
func TestP6_2Spaces(t *testing.T) {
	p := held()
	for first := range table {
		words := ordinary(first)
		want := p.store(t, 3).Do(strings.Join(words, " "))
		for _, line := range []string{
			strings.Join(words, "   "),
			"  " + strings.Join(words, " "),
			strings.Join(words, "  ") + "  ",
			" " + strings.Join(words, strings.Repeat(" ", 50)) + strings.Repeat(" ", 50),
		} {
			say(t, p.store(t, 3), line, want)
		}
		if len(words) > 1 {
			p.checkBad(t, 3, p.store(t, 3), strings.Join(words, ""), strings.Join(words, "\t"), strings.Join(words, "\n"), strings.Join(words, ","))
		}
	}
}

// TestP6_2SpacesInTexts: within quotation marks they belong to the text.
func TestP6_2SpacesInTexts(t *testing.T) {
	s := keep.Open(1)
	sayAll(t, s, `put a 1 2 3 "  x   y " -> new`, `get a -> 1 2 3 "  x   y "`, `put a 1 2 3 " " -> changed`, `get a -> 1 2 3 " "`, `ask "  x   | !x  " -> a`)
}

// TestP6_2SpaceBetween: between two words, quoted or not, a space is needed.
func TestP6_2SpaceBetween(t *testing.T) {
	p := held()
	p.checkBad(t, 3, p.store(t, 3),
		`put c 1 1 1"x"`, `put c 1 1 1 "x"y`, `put c 1 1 1 "x"""`, `put c 1 1 1 """x"`, `put c 1 1 1 """"`, `put c 1 1 1 "x""y"`, `put c 1 1 1 x"x"`, `put c 1 1 1 "x" "`, `put c 1 1 1 "`, `put c 1 1 1 "x`, `put c 1 1 1 x"`, `put c 1 1 1 "x" "y`,
		`ask"red"`, `ask "red"x`, `ask "red`, `ask red"`, `"ask" "red"`, `ask ""red""`, `ask "red" "fox"`, `ask "red""fox"`, `ask "'red" fox'"`, `get a"`, `get "a`, `get a""`, `get ""a`, `get ""`, `"get"a`, `"get" a`)
}

// TestP6_2Length: a line of MaxText bytes is allowed, a longer one is not.
func TestP6_2Length(t *testing.T) {
	p := held()
	s := p.store(t, 3)
	for first := range table {
		line := strings.Join(ordinary(first), " ")
		pad := api.MaxText - len(line)
		want := p.store(t, 3).Do(line)
		for _, before := range []int{0, 1, pad / 2, pad} {
			padded := strings.Repeat(" ", before) + line + strings.Repeat(" ", pad-before)
			say(t, p.store(t, 3), padded, want)
			p.checkBad(t, 3, s, padded+" ", " "+padded)
		}
		p.checkBad(t, 3, s, line+strings.Repeat(" ", 1<<20))
	}
	p.checkBad(t, 3, s, strings.Repeat("count ", 1<<18), strings.Repeat("x", 1<<20), strings.Repeat(`"`, 1<<20))
}

// TestP6_2LongQuestions: a question may be as long as the line allows.
func TestP6_2LongQuestions(t *testing.T) {
	p := held()
	s := p.store(t, 3)
	room := api.MaxText - len(`ask ""`)
	say(t, s, `ask "`+strings.Repeat("fox ", room/4)+strings.Repeat(" ", room%4)+`"`, "a")
	say(t, s, `ask "`+strings.Repeat(" ", room-3)+`red"`, "a")
	p.checkBad(t, 3, s, `ask "`+strings.Repeat(" ", room-2)+`red"`)
}

// TestP6_2EachByte: each byte behind a name, within one, within a text and within a question.
func TestP6_2EachByte(t *testing.T) {
	const letters = "abcdefghijklmnopqrstuvwxyz0123456789"
	for c := range 256 {
		b := string([]byte{byte(c)})
		for line, right := range map[string]string{
			"count" + b:                        " ",
			b + "count":                        " ",
			"get " + b:                         letters,
			"get a" + b:                        letters + " ",
			"get a" + b + "b":                  letters,
			"hold a " + b + "b":                letters + " ",
			"guess 1 " + b:                     "0123456789",
			"guess 1 9" + b:                    "0123456789 ",
			"vote 1 1 " + b:                    "123456789",
			"check a 2345678abcdef0" + b + "1": "0123456789abcdef",
			`ask "a` + b + `"`:                 letters + strings.ToUpper(letters) + " *",
			`put a 1 1 1 "x"` + b:              " ",
			`put a 1 1 1` + b + `"x"`:          " ",
			`put a 1 1 1 "x` + b + `"`:         printable(`"\`),
			`put a 1 1 1 "` + b + `x"`:         printable(`"\`),
		} {
			got := keep.Open(1).Do(line)
			if want := strings.Contains(right, b); want != (got != "bad") {
				t.Errorf("%q: %q", line, got)
			}
		}
	}
}

// printable returns the bytes from 32 to 126 but some.
func printable(but string) string {
	var list []byte
	for c := 32; c <= 126; c++ {
		if strings.IndexByte(but, byte(c)) < 0 {
			list = append(list, byte(c))
		}
	}
	return string(list)
}

// TestP6_2LettersBeyond: letters beyond ASCII are no words' letters, not even those whose least byte is a letter's.
func TestP6_2LettersBeyond(t *testing.T) {
	p := held()
	p.checkBad(t, 3, p.store(t, 3), "get \u00e9", "get \u0161", "get \u0661", "guess 1 \u0661", "guess 1 \uff11", "get \uff41", "count\u00a0", "count\u2003", "put c 1 1 1 \"\u00e9\"", "put c 1 1 1 \u201cx\u201d", "ask \"\u00e9\"", "get \u212a", "get a\x00", "get a\xff")
}

// TestP6_2BadFirst: "bad" comes ahead of all other answers.
func TestP6_2BadFirst(t *testing.T) {
	p, s := fullStore(t, 9)
	p.checkBad(t, 9, s, `put new 1 1 8 "x"`, `put new 1 1 1 "\"`, `put k1 1001 1 1 "x"`, "drop New", "drop new new", "hold new New", "free new 'me'", "get new!", "vote 1 1 0")
	q := held()
	q.checkBad(t, 3, q.store(t, 3), `put b 1 1 1 "\"`, `put b 1 1 8 "x"`, "drop b b", "hold b ME", "hold a courtcour", "free b Me", "check a 000000000000000", "check none 0")
	plain{}.checkBad(t, 3, keep.Open(3), "line 1", "vote 1 1 0", "guess 1 1001", "drop A", "hold a A", "in 1 0 0 0", `ask "("`, "span a", "get", "near 0 0 0")
}

// TestP6_2SpoiledLines: lines of which some bytes are others are allowed if the grammar, taken word for word, allows them.
func TestP6_2SpoiledLines(t *testing.T) {
	r := rand.New(rand.NewSource(62))
	var firsts []string
	for first := range table {
		firsts = append(firsts, first)
	}
	slices.Sort(firsts)
	right, wrong := 0, 0
	for range 40000 {
		words := []string{one(r, firsts)}
		for _, letter := range table[words[0]] {
			words = append(words, one(r, allowed[letter]))
		}
		line := []byte(strings.Join(words, " "))
		for range r.Intn(3) {
			at := r.Intn(len(line))
			switch r.Intn(3) {
			case 0:
				line[at] = ` "019azA'\(|*`[r.Intn(13)]
			case 1:
				line = slices.Insert(line, at, ` "019azA'\(|*`[r.Intn(13)])
			case 2:
				line = slices.Delete(line, at, at+1)
			}
			if len(line) == 0 {
				break
			}
		}
		got := keep.Open(5).Do(string(line))
		if want := isLine(string(line)); want != (got != "bad") {
			t.Fatalf("%q: %q, allowed: %t", line, got, want)
		} else if want {
			right++
		} else {
			wrong++
		}
	}
	if right < 5000 || wrong < 5000 {
		t.Errorf("%d lines are allowed, %d are not", right, wrong)
	}
}

// isLine reports whether a line is allowed, by P6.2.
func isLine(line string) bool {
	if len(line) > 600 || strings.Count(line, `"`)%2 != 0 {
		return false
	}
	// Between quotation marks, which are the odd parts, there are no spaces that separate words.
	parts := strings.Split(line, `"`)
	var words []string
	for i, part := range parts {
		if i%2 == 1 {
			words = append(words, `"`+part+`"`)
			continue
		}
		if i > 0 && part != "" && part[0] != ' ' || i < len(parts)-1 && part != "" && part[len(part)-1] != ' ' || 0 < i && i < len(parts)-1 && part == "" {
			return false
		}
		words = append(words, strings.Fields(part)...)
	}
	if len(words) == 0 {
		return false
	}
	letters, known := table[words[0]]
	if !known || len(words)-1 != len(letters) {
		return false
	}
	for i, letter := range letters {
		if !isWord(letter, words[i+1]) {
			return false
		}
	}
	return words[0] != "in" || number(words[1]) <= number(words[3]) && number(words[2]) <= number(words[4])
}

// isWord reports whether a word is allowed where a letter of the table stands.
func isWord(letter rune, word string) bool {
	inner := strings.TrimPrefix(strings.TrimSuffix(word, `"`), `"`)
	if isQuoted(letter) != (inner != word) {
		return false
	}
	only := func(letters string) bool { return strings.Trim(word, letters) == "" }
	switch letter {
	case 'K':
		return len(word) <= 8 && only("abcdefghijklmnopqrstuvwxyz0123456789")
	case 'R':
		return len(word) == 16 && only("0123456789abcdef")
	case 'T':
		return len(inner) <= 200 && !strings.Contains(inner, `\`)
	case 'Q':
		_, err := find.NewWords(0).Ask(strings.ReplaceAll(inner, "'", `"`))
		return err == api.OK
	}
	if len(word) > 9 || !only("0123456789") || len(word) > 1 && word[0] == '0' {
		return false
	}
	switch letter {
	case 'X':
		return number(word) <= 1000
	case 'L':
		return number(word) <= 7
	}
	return number(word) >= 1
}

package keep_test

import (
	"fmt"
	"math/rand"
	"slices"
	"strings"
	"testing"

	"amnesty/api"
	"amnesty/find"
	"amnesty/keep"
	"amnesty/order"
	"amnesty/slots"
)

// TestP6_2Examples are the chapter's examples 1, 3, 4 and 6.
func TestP6_2Examples(t *testing.T) {
	sayAll(t, keep.Open(1), `put a1 3 4 2 "red fox" -> new`, `get a1 -> 3 4 2 "red fox"`, "count -> 1", "rank b -> 1", "span a b -> a1", "span b a -> -")
	s := keep.Open(2)
	sayAll(t, s, `put p 0 1 0 "" -> new`, `put q 1 3 0 "" -> new`, `put r 2 5 0 "" -> new`, "line -> 2/1 1/1", "drop r -> gone", `put p 1 1 0 "" -> changed`, "line -> none")
	sayAll(t, keep.Open(3), `put p 0 0 0 "" -> new`, `put q 4 0 1 "" -> new`, "near 1 0 1 -> p", "near 2 0 2 -> p q", "in 0 0 3 9 -> p", "in 3 0 0 9 -> bad", "vote 3 0 1 -> 1", "view -> 0 1 0 0; 1 1 4 0")
	sayAll(t, keep.Open(4), `put a 1 1 1 "Red fox" -> new`, `ask "red" -> a`, `ask "f*" -> a`, `ask "'red fox'" -> a`, `ask "red |" -> bad`, `ask "!red" -> -`)
}

// TestP6_2EmptyStore: a store without records, of which nothing was ever said, or from which all went.
func TestP6_2EmptyStore(t *testing.T) {
	went := held().store(t, 6)
	sayAll(t, went, "drop a -> due", "free a court -> gone", "free b by -> ok", "free b me -> gone", "drop c -> gone")
	for _, s := range []*keep.Store{keep.Open(6), went} {
		plain{}.check(t, 6, s)
		plain{}.checkQuestions(t, 6, s)
		sayAll(t, s, "get a -> none", "count -> 0", "rank z -> 0", "span 0 z -> -", `ask "a" -> -`, `ask "!a" -> -`, `ask "''" -> -`, `ask "(" -> bad`, "in 0 0 1000 1000 -> -", "in 1 0 0 0 -> bad", "near 0 0 1 -> -", "line -> none",
			"vote 0 0 1 -> none", "guess 0 0 -> none", "view -> -", "digest -> 0000000000000000", "proof a -> missing 0", "receipt a -> "+receiptOf(6, "a"), "check a "+receiptOf(6, "a")+" -> gone", "check a "+receiptOf(5, "a")+" -> false")
	}
}

func TestP6_2Get(t *testing.T) {
	s := held().store(t, 6)
	sayAll(t, s, `get a -> 3 4 2 "red fox" held 1`, `get b -> 1000 0 7 "a b c" held 2 due`, `get c -> 5 5 0 ""`, "get d -> none", "get aa -> none", "get court -> none")
}

// TestP6_2Spans: keys in the order of their bytes, a beginning ahead of what it begins; the end does not belong to a span.
func TestP6_2Spans(t *testing.T) {
	p := plain{"a": {}, "a0": {}, "ab": {}, "b": {}, "0": {}, "z": {}, "zzzzzzzz": {}, "9": {}}
	s := p.store(t, 1)
	sayAll(t, s, "span 0 zzzzzzzz -> 0 9 a a0 ab b z", "span a b -> a a0 ab", "span a a -> -", "span b a -> -", "span a0 ab -> a0", "span aa b -> ab", "span 1 9 -> -", "span 1 a -> 9", "span zzzzzzz zzzzzzzz -> -",
		"rank 0 -> 0", "rank 00 -> 1", "rank a -> 2", "rank a0 -> 3", "rank aa -> 4", "rank b -> 5", "rank zzzzzzzz -> 7")
}

// TestP6_2Numbers: the keys of answers are told from numbers, whatever bytes these have.
func TestP6_2Numbers(t *testing.T) {
	p := plain{}
	for i := 1; i <= 8; i++ {
		for _, letter := range "09az" {
			p[strings.Repeat(string(letter), i)] = entry{text: "x"}
		}
	}
	s := p.store(t, 1)
	all := strings.Join(p.keys(), " ")
	sayAll(t, s, `ask "x" -> `+all, `ask "!y" -> `+all, "in 0 0 0 0 -> "+all, "near 7 7 99 -> "+all)
}

// TestP6_2Points: edges and corners belong to a rectangle, and equal distances stand in the order of keys.
func TestP6_2Points(t *testing.T) {
	p := plain{"a": {x: 10, y: 10}, "b": {x: 10, y: 20}, "c": {x: 20, y: 10}, "d": {x: 20, y: 20}, "e": {x: 15, y: 15}, "f": {x: 1000, y: 1000}, "g": {}}
	s := p.store(t, 1)
	sayAll(t, s, "in 10 10 20 20 -> a b c d e", "in 11 10 20 20 -> c d e", "in 10 10 19 19 -> a e", "in 15 15 15 15 -> e", "in 15 14 15 14 -> -", "in 0 0 1000 1000 -> a b c d e f g", "in 0 0 0 0 -> g", "in 1000 1000 1000 1000 -> f", "in 1 1 0 1 -> bad", "in 1 1 1 0 -> bad", "in 1000 0 999 1000 -> bad",
		"near 15 15 1 -> e", "near 15 15 5 -> e a b c d", "near 15 15 2 -> e a", "near 15 10 2 -> a c", "near 15 20 3 -> b d e", "near 0 0 7 -> g a e b c d f", "near 0 0 8 -> g a e b c d f", "near 1000 1000 999999999 -> f d e b c a g", "near 1000 1000 1 -> f")
}

// TestP6_2Questions: apostrophes stand for the quotation marks of chapter 4.
func TestP6_2Questions(t *testing.T) {
	p := plain{"a": {text: "red fox runs"}, "b": {text: "The RED house"}, "c": {text: "fox in a red house"}, "d": {text: "isn't it 2 o'Clock?"}, "e": {}}
	s := p.store(t, 1)
	sayAll(t, s, `ask "red" -> a b c`, `ask "fox house" -> c`, `ask "fox | house" -> a b c`, `ask "!fox" -> b d e`, `ask "ho*" -> b c`, `ask "'red house'" -> b c`, `ask "'house red'" -> -`, `ask "''" -> a b c d e`, `ask "!(fox | the | 'it 2')" -> e`,
		`ask "'isn t it'" -> d`, `ask "'isn't' it" -> bad`, `ask "o'clock" -> bad`, `ask "o clock" -> d`, `ask "o'clock'" -> d`, `ask "'o''clock'" -> d`, `ask " ' O  Clock ' " -> d`, `ask "'red" -> bad`, `ask "'red fox*'" -> bad`, `ask "" -> bad`, `ask "-" -> bad`, `ask "nothing" -> -`)
}

// ask is a question, and which texts answer it.
type ask struct {
	question string
	fits     func(words []string) bool
}

// anyAsk returns some question of a depth.
func anyAsk(r *rand.Rand, depth int) ask {
	word := one(r, []string{"red", "fox", "foxes", "runs", "2", "o", "clock", "a", "b", "RED"})
	small := strings.ToLower(word)
	kind := r.Intn(6)
	if depth == 0 {
		kind = r.Intn(3)
	}
	switch kind {
	case 0:
		return ask{word, func(words []string) bool { return slices.Contains(words, small) }}
	case 1:
		begin := small[:1+r.Intn(len(small))]
		return ask{begin + "*", func(words []string) bool {
			return slices.ContainsFunc(words, func(w string) bool { return strings.HasPrefix(w, begin) })
		}}
	case 2:
		pair := []string{small, one(r, []string{"fox", "red", "clock", "b", "2"})}
		return ask{"'" + strings.Join(pair, " ") + "'", func(words []string) bool {
			return strings.Contains(" "+strings.Join(words, " ")+" ", " "+strings.Join(pair, " ")+" ")
		}}
	case 3:
		inner := anyAsk(r, depth-1)
		return ask{"!(" + inner.question + ")", func(words []string) bool { return !inner.fits(words) }}
	}
	a, b := anyAsk(r, depth-1), anyAsk(r, depth-1)
	if kind == 4 {
		return ask{"(" + a.question + " | " + b.question + ")", func(words []string) bool { return a.fits(words) || b.fits(words) }}
	}
	return ask{"(" + a.question + " " + b.question + ")", func(words []string) bool { return a.fits(words) && b.fits(words) }}
}

// TestT2Asks: random questions to random stores, against each text alone.
func TestT2Asks(t *testing.T) {
	for seed := range int64(40) {
		r := rand.New(rand.NewSource(seed))
		p := anyPlain(r, 60)
		s := p.store(t, uint64(seed))
		for range 40 {
			q := anyAsk(r, 3)
			want := listed(p.keysWith(func(_ string, e entry) bool { return q.fits(find.Split(e.text)) }))
			say(t, s, `ask "`+q.question+`"`, want)
		}
	}
}

// TestP6_2Line: fractions in lowest terms, negative ones, and 0.
func TestP6_2Line(t *testing.T) {
	for _, x := range []struct {
		want   string
		points [][2]int
	}{
		{"none", [][2]int{{1, 1}}},
		{"none", [][2]int{{1, 1}, {1, 1}, {1, 9}}},
		{"0/1 5/1", [][2]int{{1, 5}, {2, 5}}},
		{"-1/1 1000/1", [][2]int{{0, 1000}, {1000, 0}}},
		{"3/1 -3/1", [][2]int{{1, 0}, {2, 3}}},
		{"-1/2 5/6", [][2]int{{0, 1}, {1, 0}, {2, 0}}},
		{"1/1000 0/1", [][2]int{{0, 0}, {1000, 1}}},
		{"1000/1 -999000/1", [][2]int{{999, 0}, {1000, 1000}}},
	} {
		p := plain{}
		for i, point := range x.points {
			p[fmt.Sprint("k", i)] = entry{x: point[0], y: point[1], label: i}
		}
		s := p.store(t, 1)
		say(t, s, "line", x.want)
		say(t, s, "line", p.line())
	}
}

// TestP6_2VoteAndGuess: records of one point and label are rows of their own.
func TestP6_2VoteAndGuess(t *testing.T) {
	p := plain{"a": {x: 1, y: 1, label: 4}, "b": {x: 1, y: 1, label: 4}, "c": {x: 2, y: 1, label: 3}, "d": {x: 0, y: 1, label: 3}, "e": {x: 9, y: 9, label: 1}}
	s := p.store(t, 1)
	sayAll(t, s, "vote 1 1 1 -> 4", "vote 1 1 3 -> 4", "vote 1 1 4 -> 4", "vote 2 1 1 -> 3", "vote 2 1 3 -> 4", "vote 3 1 4 -> 3", "vote 9 9 1 -> 1", "vote 9 9 999999999 -> 3", "guess 1 1 -> 4", "guess 0 1 -> 3", "guess 9 9 -> 1")
	p.checkQuestions(t, 1, s)
}

func TestP6_2View(t *testing.T) {
	p := plain{"a": {x: 1, y: 2, label: 7}, "b": {x: 1000, y: 30, label: 7}, "c": {x: 5, y: 0, label: 0}}
	s := p.store(t, 1)
	sayAll(t, s, "view -> 0 1 5 0; 7 2 1001 32", "drop c -> gone", "view -> 7 2 1001 32", "hold b me -> ok", "drop b -> due", "view -> 7 2 1001 32", "free b me -> gone", "view -> 7 1 1 2", `put a 0 0 3 "" -> changed`, "view -> 3 1 0 0", "drop a -> gone", "view -> -")
	all := plain{}
	for i := range 300 {
		all[fmt.Sprint(i)] = entry{x: 1000, y: i, label: i % 8}
	}
	say(t, all.store(t, 1), "view", all.view())
}

// TestP6_2DueRecords: they are records in every respect, until they go.
func TestP6_2DueRecords(t *testing.T) {
	s := keep.Open(1)
	sayAll(t, s, `put p 0 1 0 "red" -> new`, `put q 1 3 0 "red" -> new`, `put r 2 5 1 "fox" -> new`)
	lines := []string{"count", "rank z", "span a z", `ask "red"`, `ask "fox"`, "in 0 0 9 9", "near 2 5 2", "line", "vote 2 5 1", "guess 2 5", "view", "proof r", "check r " + receiptOf(1, "r")}
	var before []string
	for _, line := range lines {
		before = append(before, s.Do(line))
	}
	sayAll(t, s, "hold r me -> ok", "drop r -> due")
	for i, line := range lines {
		say(t, s, line, before[i])
	}
	sayAll(t, s, "free r me -> gone", "count -> 2", `ask "fox" -> -`, "near 2 5 2 -> q p", "check r "+receiptOf(1, "r")+" -> gone")
}

// TestP6_2Digest: all that a record has is in it, also its holders, and zeros stand ahead of a short one.
func TestP6_2Digest(t *testing.T) {
	s, short := keep.Open(1), false
	seen := map[string]bool{}
	for _, line := range []string{"count", `put a 1 1 1 "x"`, `put a 2 1 1 "x"`, `put a 2 2 1 "x"`, `put a 2 2 2 "x"`, `put a 2 2 2 "X"`, "hold a h", "hold a g", "drop a", "free a h"} {
		s.Do(line)
		if digest := s.Do("digest"); seen[digest] {
			t.Errorf("behind %s: %s again", line, digest)
		} else {
			seen[digest] = true
		}
	}
	for seed := range uint64(400) {
		p := plain{"a": {}}
		digest := p.store(t, seed).Do("digest")
		if want := fmt.Sprintf("%016x", p.pairs(t, seed).Digest()); digest != want {
			t.Fatalf("%s, expected %s", digest, want)
		}
		short = short || digest[0] == '0'
	}
	if !short {
		t.Error("no digest begins with a zero")
	}
}

// TestP6_2Receipts: they tell of the key and the seed, whatever there is.
func TestP6_2Receipts(t *testing.T) {
	p := held()
	for seed := range uint64(200) {
		s := keep.Open(seed)
		if seed%50 == 0 {
			s = p.store(t, seed)
		}
		for _, key := range []string{"a", "b", "none", "zzzzzzzz"} {
			want := fmt.Sprintf("%016x", slots.Coin(seed, 6, []byte(key)))
			say(t, s, "receipt "+key, want)
			there := map[bool]string{true: "there", false: "gone"}[strings.HasPrefix(s.Do("proof "+key), "there")]
			say(t, s, "check "+key+" "+want, there)
			for _, wrong := range []string{receiptOf(seed+1, key), receiptOf(seed, key+"0"), "0000000000000000", want[1:] + want[:1]} {
				say(t, s, "check "+key+" "+wrong, "false")
			}
		}
	}
}

// TestT6Proofs: the steps that proof counts are those of the store's map, and show to someone who knows the digest what is there.
func TestT6Proofs(t *testing.T) {
	for seed := range uint64(20) {
		p := anyPlain(rand.New(rand.NewSource(int64(seed))), 40)
		s := p.store(t, seed)
		m, err := order.Load(seed, s.Records())
		if err != api.OK {
			t.Fatal(err)
		}
		var digest uint64
		fmt.Sscanf(s.Do("digest"), "%x", &digest)
		for _, key := range append([]string{"y", "00", "zzz"}, someKeys...) {
			proof := m.Prove([]byte(key))
			value, there, err := order.Check(seed, digest, []byte(key), proof)
			e, known := p[key]
			if err != api.OK || there != known || there && string(value) != string(e.value()) {
				t.Fatalf("the proof of %s shows %q, %t, %d", key, value, there, err)
			}
			word := map[bool]string{true: "there", false: "missing"}[there]
			say(t, s, "proof "+key, fmt.Sprint(word, " ", len(proof)))
		}
	}
}

// TestT2FullStores: the answers of full stores.
func TestT2FullStores(t *testing.T) {
	p, s := fullStore(t, 11)
	p.check(t, 11, s)
	p.checkQuestions(t, 11, s)
	r := rand.New(rand.NewSource(11))
	p = plain{}
	for len(p) < 300 {
		p[fmt.Sprint("k", r.Intn(1000))] = entry{x: r.Intn(1001), y: r.Intn(1001), label: r.Intn(8), text: anyText(r)}
	}
	s = p.store(t, 12)
	p.check(t, 12, s)
	p.checkQuestions(t, 12, s)
	say(t, s, "near 500 500 300", p.near(500, 500, 300))
	say(t, s, "span 0 zzzzzzzz", strings.Join(p.keys(), " "))
}

// TestP4AskingChangesNothing: questions leave a store as it is, and have the same answer again.
func TestP4AskingChangesNothing(t *testing.T) {
	p := held()
	s := p.store(t, 3)
	for range 2 {
		p.checkQuestions(t, 3, s)
		say(t, s, `ask "red | a*"`, "a b")
		p.check(t, 3, s)
	}
}

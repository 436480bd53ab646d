package keep_test

import (
	"bytes"
	"fmt"
	"math/rand"
	"strings"
	"testing"

	"amnesty/api"
	"amnesty/keep"
)

// same tells where two stores are not one: in their bytes, and in the answers to questions, which seed asks.
func same(t *testing.T, seed uint64, a, b *keep.Store) {
	t.Helper()
	if !bytes.Equal(a.Image(), b.Image()) || !bytes.Equal(a.Records(), b.Records()) || a.Len() != b.Len() {
		t.Fatalf("the images differ: %x, %x", a.Image(), b.Image())
	}
	lines := []string{`ask "red"`, `ask "!fo*"`, `ask "'red fox' | runs"`, `ask "''"`, "span 0 zzzzzzzz", "in 0 0 1000 1000", "near 2 2 300"}
	for _, w := range questions(seed) {
		lines = append(lines, strings.Join(w, " "))
	}
	for _, line := range lines {
		say(t, a, line, b.Do(line))
	}
}

// wander returns a store of a content to which much else was told before: records that went, other points, labels and texts, holders that hold no more.
func wander(t *testing.T, r *rand.Rand, seed uint64, p plain) *keep.Store {
	t.Helper()
	s := keep.Open(seed)
	for range 60 {
		s.Do(lineOf(r, anyChange(r, len(someHolders))))
	}
	for _, i := range r.Perm(len(someKeys)) {
		key := someKeys[i]
		for _, name := range someHolders {
			s.Do("free " + key + " " + name)
		}
		e, there := p[key]
		if !there || r.Intn(2) == 0 {
			s.Do("drop " + key)
		}
		if !there {
			continue
		}
		s.Do(putLine(key, e))
		names := e.names()
		for _, i := range r.Perm(len(names)) {
			say(t, s, "hold "+key+" "+names[i], "ok")
		}
		if e.due {
			say(t, s, "drop "+key, "due")
		}
	}
	return s
}

// TestT1OneShape: whatever lines led there, stores of one content have one image, and the same answers.
func TestT1OneShape(t *testing.T) {
	for seed := range uint64(25) {
		r := rand.New(rand.NewSource(int64(seed)))
		p := anyPlain(r, 50)
		straight := p.store(t, seed)
		for range 3 {
			s := wander(t, r, seed, p)
			p.check(t, seed, s)
			same(t, seed, s, straight)
			same(t, seed, load(t, seed, s.Records()), straight)
		}
	}
}

// TestT1OtherSeeds: the answers are those of each other seed but for digests, receipts and proofs.
func TestT1OtherSeeds(t *testing.T) {
	p := held()
	for seed := range uint64(20) {
		s := p.store(t, seed)
		p.check(t, seed, s)
		p.checkQuestions(t, seed, s)
	}
	for _, seed := range []uint64{1 << 63, 1<<64 - 1} {
		s := p.store(t, seed)
		p.check(t, seed, s)
		p.checkQuestions(t, seed, s)
		same(t, seed, load(t, seed, s.Records()), s)
	}
}

// TestT4Forgetting: a store from which a record was dropped has the image of one that was never told of it, whatever was done to it in between.
func TestT4Forgetting(t *testing.T) {
	for seed := range uint64(25) {
		r := rand.New(rand.NewSource(int64(seed) + 100))
		told, never := keep.Open(seed), keep.Open(seed)
		const secret = "secret"
		for range 150 {
			w := anyChange(r, 4)
			if r.Intn(3) == 0 {
				w[1] = secret
				told.Do(lineOf(r, w))
				continue
			}
			line := lineOf(r, w)
			say(t, told, line, never.Do(line))
			if r.Intn(10) == 0 {
				told.Do("get secret")
				told.Do(`ask "red"`)
				told.Do("proof secret")
			}
		}
		for _, name := range someHolders {
			told.Do("free secret " + name)
		}
		told.Do("drop secret")
		same(t, seed, told, never)
		say(t, told, "check secret "+receiptOf(seed, secret), "gone")
	}
}

// TestT4EachWay: a record goes by a drop, or when the last holder of a due one frees it; what was changed of one that stays is forgotten, too.
func TestT4EachWay(t *testing.T) {
	for _, lines := range [][]string{
		{`put x 1 2 3 "secret fox"`, "drop x"},
		{`put x 1 2 3 "secret"`, `put x 4 5 6 "other words"`, "drop x"},
		{`put x 1 2 3 "red fox"`, "hold x me", "free x me", "drop x"},
		{`put x 1 2 3 "red fox"`, "hold x me", "hold x you", "drop x", "free x you", "free x me"},
		{`put x 3 4 2 "red fox"`, "hold x me", "drop x", `put x 1 1 1 "y"`, "drop x", "free x me"},
		{`put a 9 9 1 "secret"`, `put a 3 4 2 "red fox"`},
		{"hold a me", "free a me"},
		{"hold b a", "hold b z", "free b z", "free b a"},
		{"hold c me", "drop c", "free c me", `put c 5 5 0 ""`},
		{"drop c", `put c 5 5 0 "secret"`, "drop c", `put c 5 5 0 ""`},
		{"get secret", `ask "secret"`, "proof secret", "receipt secret", "drop secret", "hold secret me", "bad line", `put x 1 1 8 "secret"`},
	} {
		p := held()
		s := p.store(t, 3)
		for _, line := range lines {
			s.Do(line)
		}
		p.check(t, 3, s)
		same(t, 3, s, p.store(t, 3))
	}
}

// TestT4FullStores: a store that was full, and of which all went, is an empty one.
func TestT4FullStores(t *testing.T) {
	p, s := fullStore(t, 9)
	r := rand.New(rand.NewSource(9))
	keys := p.keys()
	for n, i := range r.Perm(len(keys)) {
		if n == 150 {
			p.check(t, 9, s)
		}
		say(t, s, "drop "+keys[i], "gone")
		delete(p, keys[i])
	}
	same(t, 9, s, keep.Open(9))
}

// TestP1NilAndZero: a nil store, and the zero value, answer "bad" to every line, and have no bytes.
func TestP1NilAndZero(t *testing.T) {
	var none *keep.Store
	var zero keep.Store
	for what, s := range map[string]*keep.Store{"nil": none, "zero": &zero, "new": new(keep.Store)} {
		for range 2 {
			for first := range table {
				say(t, s, strings.Join(ordinary(first), " "), "bad")
			}
			for _, line := range []string{"", " ", "  count  ", "bad", `ask "''"`, `put a 1 1 1 "x"`, strings.Repeat("x", 1000)} {
				say(t, s, line, "bad")
			}
			if s.Len() != 0 || len(s.Records()) != 0 || len(s.Image()) != 0 {
				t.Errorf("%s: %d records, %x, %x", what, s.Len(), s.Records(), s.Image())
			}
		}
	}
}

// TestP1AnyBytes: lines and images of any bytes are answered.
func TestP1AnyBytes(t *testing.T) {
	r := rand.New(rand.NewSource(1))
	p := held()
	s := p.store(t, 3)
	for range 5000 {
		b := make([]byte, r.Intn(60))
		r.Read(b)
		say(t, s, string(b), "bad")
		refuses(t, 3, append([]byte{1, 0, 0, 0, 0, 1}, b...), fmt.Sprintf("%x", b))
	}
	p.check(t, 3, s)
}

// TestP1Copied: a Store that a caller copies is the same store still.
func TestP1Copied(t *testing.T) {
	s := held().store(t, 3)
	copied := *s
	sayAll(t, &copied, "drop c -> gone", `put d 1 1 1 "x" -> new`, "hold d me -> ok")
	same(t, 3, s, &copied)
	sayAll(t, s, `get d -> 1 1 1 "x" held 1`, `ask "x" -> d`, "drop d -> due")
	same(t, 3, &copied, s)
}

// TestP2NoStore: with an error there is no store.
func TestP2NoStore(t *testing.T) {
	for _, b := range [][]byte{nil, {}, {0}, {0, 0, 0}, {1, 0, 0, 0}, {0, 0, 0, 0, 0}, {255, 255, 255, 255}} {
		refuses(t, 0, b, fmt.Sprintf("%x", b))
	}
}

// TestP3Memory: a store shares no memory with what it was loaded from, nor with what it returns.
func TestP3Memory(t *testing.T) {
	p := held()
	records := p.pairs(t, 3).Image()
	before := bytes.Clone(records)
	s, err := keep.Load(3, records)
	if err != api.OK || !bytes.Equal(records, before) {
		t.Fatalf("Load: %d, and its argument changed: %x", err, records)
	}
	clear(records)
	p.check(t, 3, s)
	for range 2 {
		for _, returned := range [][]byte{s.Records(), s.Image()} {
			clear(returned)
			_ = append(returned, 77)
		}
		p.check(t, 3, s)
	}
	p.checkQuestions(t, 3, s)
}

// TestP4Apart: stores know nothing of each other, also of one seed.
func TestP4Apart(t *testing.T) {
	a, b := keep.Open(3), keep.Open(3)
	sayAll(t, a, `put a 1 1 1 "x" -> new`, "hold a me -> ok")
	plain{}.check(t, 3, b)
	sayAll(t, b, "get a -> none", `put a 2 2 2 "y" -> new`, `ask "x" -> -`)
	plain{"a": entry{x: 1, y: 1, label: 1, text: "x"}.withHolders("me")}.check(t, 3, a)
	again := load(t, 3, a.Records())
	sayAll(t, again, "free a me -> ok", "drop a -> gone")
	sayAll(t, a, `get a -> 1 1 1 "x" held 1`)
}

package keep_test

import (
	"fmt"
	"math/rand"
	"strings"
	"testing"

	"amnesty/keep"
)

// TestP6_2Example2 is the chapter's second example, behind its first one.
func TestP6_2Example2(t *testing.T) {
	s := keep.Open(7)
	sayAll(t, s, `put a1 3 4 2 "red fox" -> new`, `hold a1 court -> ok`, `drop a1 -> due`, `get a1 -> 3 4 2 "red fox" held 1 due`, `put a1 0 0 0 "" -> due`, `free a1 me -> free`, `free a1 court -> gone`, `get a1 -> none`)
	plain{}.check(t, 7, s)
}

// TestP6_1Bounds: records at the bounds are kept as they are.
func TestP6_1Bounds(t *testing.T) {
	p := plain{
		"a":        {},
		"0":        {x: 1000, y: 1000, label: 7, text: strings.Repeat("x", 200)},
		"zzzzzzzz": {x: 1000, label: 0, text: printable(`"\`)},
		"99999999": {y: 1000, label: 7, text: strings.Repeat("a ", 100)},
		"put":      {x: 255, y: 256, label: 1, text: strings.Repeat(" ", 200)},
	}
	p["full"] = entry{text: "'"}.withHolders("a", "0", "zzzzzzzz", "z", "zz", "full", "99999999", "aaaaaaaa")
	s := p.store(t, 1)
	p.check(t, 1, s)
	p.checkQuestions(t, 1, s)
	for key, e := range p {
		say(t, s, "get "+key, e.told())
	}
}

func TestP6_2Put(t *testing.T) {
	s := keep.Open(2)
	sayAll(t, s, `put a 1 2 3 "x" -> new`, `get a -> 1 2 3 "x"`)
	plain{"a": {x: 1, y: 2, label: 3, text: "x"}}.check(t, 2, s)
	sayAll(t, s, `put a 1 2 3 "x" -> changed`, `put a 2 2 3 "x" -> changed`, `put a 2 1 3 "x" -> changed`, `put a 2 1 0 "x" -> changed`, `put a 2 1 0 "Y, z" -> changed`, `get a -> 2 1 0 "Y, z"`)
	plain{"a": {x: 2, y: 1, text: "Y, z"}}.check(t, 2, s)
	sayAll(t, s, `ask "x" -> -`, `ask "y z" -> a`, `in 1 2 1 2 -> -`, `in 2 1 2 1 -> a`, `vote 1 2 1 -> 0`)
}

// TestP6_2PutKeepsHolders: the holders of a record that is changed stay, and a due record is not changed.
func TestP6_2PutKeepsHolders(t *testing.T) {
	s := keep.Open(2)
	p := plain{"a": entry{x: 1, y: 2, label: 3, text: "x"}.withHolders("h", "g")}
	sayAll(t, s, `put a 9 9 1 "old" -> new`, `hold a h -> ok`, `hold a g -> ok`, `put a 1 2 3 "x" -> changed`, `get a -> 1 2 3 "x" held 2`)
	p.check(t, 2, s)
	sayAll(t, s, `hold a h -> held`, `hold a g -> held`, `drop a -> due`, `put a 5 5 5 "y" -> due`, `put a 1 2 3 "x" -> due`, `get a -> 1 2 3 "x" held 2 due`)
	e := p["a"]
	e.due = true
	plain{"a": e}.check(t, 2, s)
}

// TestP6_2PutFull: a full store takes no new record, but changes those that it has.
func TestP6_2PutFull(t *testing.T) {
	p, s := fullStore(t, 9)
	say(t, s, "hold k1 me", "ok")
	say(t, s, "drop k1", "due")
	due := p["k1"].withHolders("me")
	due.due = true
	p["k1"] = due
	for _, line := range []string{`put new 1 1 1 "x"`, `put k 1 1 1 ""`, `put k300 1 1 1 "text 1"`, `put 0 1 1 1 ""`, `put zzzzzzzz 1 1 1 ""`} {
		say(t, s, line, "full")
		p.check(t, 9, s)
	}
	say(t, s, `put k1 1 1 1 "x"`, "due")
	p.check(t, 9, s)
	say(t, s, `put k2 1 1 1 "x"`, "changed")
	p["k2"] = entry{x: 1, y: 1, label: 1, text: "x"}
	p.check(t, 9, s)
	sayAll(t, s, "count -> 300", "drop new -> none", "hold new me -> none", "get new -> none", "drop k3 -> gone", `put new 2 2 2 "y" -> new`, `put k3 1 1 1 "x" -> full`)
	delete(p, "k3")
	p["new"] = entry{x: 2, y: 2, label: 2, text: "y"}
	p.check(t, 9, s)
	sayAll(t, s, "free k1 me -> gone", `put k3 1 1 1 "x" -> new`, `put k1 1 1 1 "x" -> full`)
}

func TestP6_2Drop(t *testing.T) {
	p := held()
	s := p.store(t, 4)
	for _, line := range []string{"drop d", "drop aa", "drop 0", "drop cc"} {
		say(t, s, line, "none")
	}
	say(t, s, "drop b", "due")
	p.check(t, 4, s)
	say(t, s, "drop c", "gone")
	delete(p, "c")
	p.check(t, 4, s)
	say(t, s, "drop c", "none")
	say(t, s, "drop a", "due")
	e := p["a"]
	e.due = true
	p["a"] = e
	p.check(t, 4, s)
	say(t, s, "drop a", "due")
	p.check(t, 4, s)
}

// TestP6_2DropOfFreed: a record that was held, and is free before it is dropped, goes at once.
func TestP6_2DropOfFreed(t *testing.T) {
	s := keep.Open(4)
	sayAll(t, s, `put a 1 1 1 "x" -> new`, "hold a h -> ok", "free a h -> ok", "get a -> 1 1 1 \"x\"", "drop a -> gone", "count -> 0")
	plain{}.check(t, 4, s)
}

func TestP6_2Hold(t *testing.T) {
	s := keep.Open(4)
	sayAll(t, s, "hold a h -> none", `put a 1 1 1 "x" -> new`, "hold b h -> none")
	p := plain{"a": {x: 1, y: 1, label: 1, text: "x"}}
	p.check(t, 4, s)
	// In an order that is not theirs; a beginning is less than what it begins.
	for i, name := range []string{"m", "a", "z", "ab", "aa", "0", "zz", "mmmmmmmm"} {
		say(t, s, "hold a "+name, "ok")
		p["a"] = p["a"].withHolders(append(p["a"].names(), name)...)
		p.check(t, 4, s)
		say(t, s, "hold a "+name, "held")
		say(t, s, "get a", fmt.Sprintf(`1 1 1 "x" held %d`, i+1))
		p.check(t, 4, s)
	}
	for _, name := range []string{"b", "a0", "mmmmmmm", "zzz", "00"} {
		say(t, s, "hold a "+name, "full")
		p.check(t, 4, s)
	}
	for _, name := range p["a"].names() {
		say(t, s, "hold a "+name, "held")
	}
	sayAll(t, s, "free a ab -> ok", "hold a b -> ok", "hold a ab -> full")
}

// TestP6_2HoldOfDue: a due record may be held by others, and freed, until nobody holds it.
func TestP6_2HoldOfDue(t *testing.T) {
	s := keep.Open(4)
	sayAll(t, s, `put a 1 1 1 "x" -> new`, "hold a h -> ok", "drop a -> due", "hold a h -> held", "hold a g -> ok", `get a -> 1 1 1 "x" held 2 due`, "free a h -> ok", "free a h -> free", `get a -> 1 1 1 "x" held 1 due`)
	due := entry{x: 1, y: 1, label: 1, text: "x", due: true}.withHolders("g")
	plain{"a": due}.check(t, 4, s)
	sayAll(t, s, "drop a -> due", "free a g -> gone", "free a g -> none", "drop a -> none", "hold a g -> none")
	plain{}.check(t, 4, s)
	sayAll(t, s, `put a 1 1 1 "x" -> new`, `get a -> 1 1 1 "x"`, "drop a -> gone")
}

// TestP6_2HoldFullOfDue: a due record that MaxHolds others hold, too, is held by no further one.
func TestP6_2HoldFullOfDue(t *testing.T) {
	e := entry{due: true}.withHolders("1", "2", "3", "4", "5", "6", "7", "8")
	s := plain{"a": e}.store(t, 1)
	sayAll(t, s, "hold a 9 -> full", "hold a 8 -> held", "free a 9 -> free", `get a -> 0 0 0 "" held 8 due`)
	plain{"a": e}.check(t, 1, s)
}

func TestP6_2Free(t *testing.T) {
	p := held()
	s := p.store(t, 4)
	sayAll(t, s, "free d court -> none", "free a cour -> free", "free a courts -> free", "free a me -> free", "free c court -> free", "free b court -> free")
	p.check(t, 4, s)
	say(t, s, "free a court", "ok")
	p["a"] = p["a"].withHolders()
	p.check(t, 4, s)
	sayAll(t, s, "free a court -> free", "free b by -> ok")
	p["b"] = p["b"].withHolders("me")
	p.check(t, 4, s)
	say(t, s, "free b me", "gone")
	delete(p, "b")
	p.check(t, 4, s)
}

// TestP6_2SameNames: keys and holders may have the same names, and one holder may hold several records.
func TestP6_2SameNames(t *testing.T) {
	s := keep.Open(4)
	sayAll(t, s, `put a 1 1 1 "x" -> new`, `put b 2 2 2 "y" -> new`, "hold a a -> ok", "hold a b -> ok", "hold b a -> ok", "drop a -> due", "free b a -> ok", "drop b -> gone", "free a b -> ok", "free a a -> gone", "count -> 0")
}

// TestT2Changes: random lines are answered as the plain list answers them, and leave its content.
func TestT2Changes(t *testing.T) {
	answers := map[string]int{}
	for seed := range uint64(30) {
		r := rand.New(rand.NewSource(int64(seed)))
		p, s := plain{}, keep.Open(seed)
		for i := range 400 {
			w := anyChange(r, 1+int(seed)%len(someHolders))
			want := p.change(w...)
			say(t, s, lineOf(r, w), want)
			answers[w[0]+" "+want]++
			if i%10 == 0 {
				p.check(t, seed, s)
			}
		}
		p.check(t, seed, s)
		p.checkQuestions(t, seed, s)
	}
	for _, each := range []string{"put new", "put changed", "put due", "drop none", "drop due", "drop gone", "hold none", "hold ok", "hold held", "free none", "free free", "free ok", "free gone"} {
		if answers[each] < 10 {
			t.Errorf("%q %d times only", each, answers[each])
		}
	}
}

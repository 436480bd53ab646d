package desk_test

import (
	"fmt"
	"math/rand"
	"slices"
	"strings"
	"testing"

	"amnesty/disk"
	"amnesty/keep"
	"amnesty/slots"
)

func TestP8_1Open(t *testing.T) {
	answers := run(t, "open a "+seed1+" 8 -> ok", "do a put k 1 2 3 \"x\" -> new", "look a", "open a "+seed1+" 8 -> twice", "open a "+seed2+" 9 -> twice", "look a", "do a count -> 1", "open b "+seed1+" 8 -> ok", "do b count -> 0", "do a count -> 1")
	same(t, answers, 2, answers, 5)
}

// TestP8_1OpenMany: there are at most MaxStores places; one that is there is told of ahead of that.
func TestP8_1OpenMany(t *testing.T) {
	var lines []string
	for i := range 8 {
		lines = append(lines, fmt.Sprintf("open p%d %016x 8 -> ok", i, i), fmt.Sprintf(`do p%d put k %d 0 0 "x" -> new`, i, i))
	}
	lines = append(lines, "open q "+seed1+" 8 -> full", "open q "+seed1+" 7 -> bad", "open p3 "+seed1+" 8 -> twice", "open p3 "+seed1+" 7 -> bad", "do q count -> none", "close q -> none", "open q "+seed1+" 8 -> full")
	for i := range 8 {
		lines = append(lines, fmt.Sprintf(`do p%d get k -> %d 0 0 "x"`, i, i))
	}
	lines = append(lines, "close p5 -> ok", "open q "+seed1+" 8 -> ok", "open p5 "+seed1+" 8 -> full", "do q count -> 0", "open q "+seed1+" 8 -> twice")
	lines = append(lines, "save p0 0 0 -> down", "open r "+seed1+" 8 -> full", "open p0 "+seed1+" 8 -> twice", "close p0 -> ok", "open p0 "+seed1+" 8 -> ok", "do p0 count -> 0")
	run(t, lines...)
}

// TestP8_1Close: a place that is closed goes with all its bytes, also one that is down.
func TestP8_1Close(t *testing.T) {
	fresh := run(t, "open a "+seed2+" 9", "look a", "size a")
	for _, last := range []string{"do a count", "save a", "save a 0 9", "save a 3 9", "mount a"} {
		gone := []string{"look a -> none", "size a -> none", "do a count -> none", "save a -> none", "mount a -> none", "mirror a a -> none", "close a -> none"}
		lines := slices.Concat([]string{"close a -> none", "open a " + seed1 + " 12 -> ok", "do a put k 1 2 3 \"x\" -> new", "save a", last, "close a -> ok"}, gone, []string{"open a " + seed2 + " 9 -> ok", "do a count -> 0", "look a", "size a"})
		answers := run(t, lines...)
		same(t, answers, -2, fresh, 1)
		same(t, answers, -1, fresh, 2)
	}
}

// TestP6_2Lines: what is handed to a store is answered, and done, as the store does it.
func TestP6_2Lines(t *testing.T) {
	s := keep.Open(1)
	lines := []string{
		`put a 0 1 0 "Red fox"`, `put b 1 3 0 ""`, `put c 2 5 1 "  foxes  and 'more'  "`, `put c 2 5 1 "foxes"`, "count", "rank b", "span a c", "span b a", `ask "fo*"`, `ask "'red fox' | !fo*"`, `ask "a |"`,
		"in 0 0 1 9", "in 3 0 0 9", "near 1 2 2", "line", "vote 1 1 2", "guess 2 2", "view", "digest", "proof a", "proof z", "receipt a", "check a 0000000000000000", "check a " + fmt.Sprintf("%016x", slots.Coin(1, 6, []byte("a"))),
		"hold c court", "hold c court", "drop c", "get c", `put c 0 0 0 ""`, "free c me", "free c court", "get c", "drop a", "drop a", "count",
		"", " ", "-", `"`, `""`, `"count"`, `count"`, `count "`, `count ""`, "count 1", "Count", "do a count", "save a", "look a", "open b 0000000000000001 8", `ask "x`, `ask x"`, `ask "x"y`, `put A 1 1 1 "x"`, "near 1 1 0", "  count  ", "count   ", "rank    b  ",
		`put d 1 1 1 "` + strings.Repeat("x", 200) + `"`, `put d 1 1 1 "` + strings.Repeat("x", 201) + `"`, "get d",
	}
	script := []string{"open a " + seed1 + " 8"}
	for _, line := range lines {
		script = append(script, "do a "+line+" -> "+s.Do(line), "  do    a      "+line+" -> "+s.Do(line))
	}
	script = append(script, fmt.Sprintf("size a -> %d %d", s.Len(), len(s.Image())+64*25))
	run(t, script...)
}

// TestP8_1DoWithoutLine: nothing is handed to the store, which is no line of its language; whether there is a store is told ahead of that.
func TestP8_1DoWithoutLine(t *testing.T) {
	for _, rest := range []string{"", " ", "    ", ` "`, ` count "x`, " \"count\"", " x y z"} {
		run(t, "do a"+rest+" -> none", "open a "+seed1+" 8 -> ok", "do a"+rest+" -> bad", "save a 0 0 -> down", "do a"+rest+" -> down")
	}
	checkBad(t, "do", "do  ", `do a"x"`, `do a"" count`, `do "a" count`, `do"a" count`, `do" a count`, "do A count", "do abcdefghi count")
}

// TestP8_1DoFull: the records of a place have the bounds of a store.
func TestP8_1DoFull(t *testing.T) {
	lines := []string{"open a " + seed1 + " 8"}
	for i := range 300 {
		lines = append(lines, fmt.Sprintf(`do a put k%d %d 1 1 "" -> new`, i, i))
	}
	run(t, append(lines, `do a put k 1 1 1 "" -> full`, "size a", "do a count -> 300", "look a", "save a -> full")...)
}

// TestP8_1Order: "bad" is looked for ahead of "none" for P, then for Q; "down" for P, then for Q; and the others.
func TestP8_1Order(t *testing.T) {
	lines := []string{"open u " + seed1 + " 8 -> ok", "open v " + seed1 + " 8 -> ok", "open s " + seed2 + " 8 -> ok"}
	for _, name := range []string{"d", "e", "f"} {
		seed := seed1
		if name == "f" {
			seed = seed2
		}
		lines = append(lines, "open "+name+" "+seed+" 8 -> ok", "save "+name+" 0 0 -> down")
	}
	names := "unsdvexf" // n and x are not there; d, e and f are down
	for _, p := range names {
		for _, q := range names {
			want := "1"
			switch {
			case strings.ContainsRune("nx", p) || strings.ContainsRune("nx", q):
				want = "none"
			case strings.ContainsRune("def", p) || strings.ContainsRune("def", q):
				want = "down"
			case p == q || p == 's' || q == 's':
				want = "bad"
			}
			lines = append(lines, fmt.Sprintf("mirror %c %c -> %s", p, q, want), fmt.Sprintf("mirror %c %c x -> bad", p, q), fmt.Sprintf("mirror %c Q -> bad", p), fmt.Sprintf("mirror P %c -> bad", q))
		}
	}
	for _, p := range names {
		want := "none"
		switch {
		case strings.ContainsRune("def", p):
			want = "down"
		case strings.ContainsRune("uvs", p):
			want = "0"
		}
		lines = append(lines, fmt.Sprintf("do %c count -> %s", p, want), fmt.Sprintf("save %c 1 -> bad", p), fmt.Sprintf("mount %c 1 01 -> bad", p), fmt.Sprintf("look %c x -> bad", p), fmt.Sprintf("size %c x -> bad", p), fmt.Sprintf("close %c x -> bad", p), fmt.Sprintf("open %c %s 7 -> bad", p, seed1), fmt.Sprintf("open %c 1 8 -> bad", p))
		if want != "0" {
			lines = append(lines, fmt.Sprintf("save %c -> %s", p, want), fmt.Sprintf("save %c 0 0 -> %s", p, want))
		}
	}
	run(t, lines...)
}

// TestP8_1Mirror: the store of Q gets the records of P, with all that belongs to them, and not the disk.
func TestP8_1Mirror(t *testing.T) {
	answers := run(t, "open a "+seed1+" 64", "open b "+seed1+" 64", "mirror a b -> 1", "do a put k 1 2 3 \"red fox\" -> new", "do a put l 4 5 6 \"blue\" -> new", "do a hold l me -> ok", "do a drop l -> due", "do b put m 7 8 1 \"gone\" -> new",
		"look a", "mirror a b", "look a", "mirror a b -> 1", "mirror b a -> 1", "do b span 0 z -> k l", "do b get l -> 4 5 6 \"blue\" held 1 due", "do b ask \"red | gone\" -> k", "do b in 0 0 9 9 -> k l", "do b vote 1 2 1 -> 3", "do b view", "look b", "save b", "save a", "look a", "look b")
	same(t, answers, 8, answers, 10)
	same(t, answers, 10, answers, 19)
	same(t, answers, -2, answers, -1)
	run(t, "open a "+seed1+" 64", "open b "+seed1+" 64", "do a put k 1 2 3 \"x\" -> new", "save a", "save b", "mirror a b -> 3", "mount b -> up 0", "do b count -> 0", "mirror a b -> 3", "do b drop k -> gone", "do a count -> 1", "mirror b a -> 1", "do a count -> 0", "mount a -> up 0", "do a count -> 1")
}

// TestP8_1MirrorIsCopied: behind a mirror, the two stores change each on its own.
func TestP8_1MirrorIsCopied(t *testing.T) {
	run(t, "open a "+seed1+" 64", "open b "+seed1+" 64", "do a put k 1 2 3 \"x\" -> new", "mirror a b -> 3", "do a put k 4 5 6 \"y\" -> changed", "do b get k -> 1 2 3 \"x\"", "do b put l 1 1 1 \"z\" -> new", "do a count -> 1", "close a -> ok", "do b count -> 2")
}

// TestP8_1MirrorFull: a full store gets other records, as many.
func TestP8_1MirrorFull(t *testing.T) {
	lines := []string{"open a " + seed1 + " 8", "open b " + seed1 + " 9"}
	for i := range 300 {
		lines = append(lines, fmt.Sprintf(`do a put a%d 1 1 1 "" -> new`, i), fmt.Sprintf(`do b put b%d 1 1 1 "" -> new`, i))
	}
	run(t, append(lines, "mirror a b", "mirror a b -> 1", `do b put k 1 1 1 "" -> full`, "do b rank b -> 300", "look b", "size b")...)
}

// TestP8_1Look: the coin of the store's image and the disk's bytes.
func TestP8_1Look(t *testing.T) {
	s := keep.Open(1)
	s.Do(`put k 1 2 3 "x"`)
	d, _ := disk.Format(1, 24)
	fresh := coin(slices.Concat(s.Image(), d.Bytes()))
	size := fmt.Sprintf("size a -> 1 %d", len(s.Image())+64*73)
	run(t, "open a "+seed1+" 24", `do a put k 1 2 3 "x" -> new`, "look a -> "+fresh, size, "look a -> "+fresh, size)
	none := coin(d.Bytes())
	run(t, "open a "+seed1+" 24", `do a put k 1 2 3 "x" -> new`, "save a 0 0 -> down", "look a -> "+none, "size a -> 0 4672", "mount a -> up 0", "look a -> "+coin(slices.Concat(keep.Open(1).Image(), d.Bytes())))
}

// coin returns what a look at some bytes answers.
func coin(b []byte) string { return fmt.Sprintf("%016x", slots.Coin(0, 7, b)) }

// TestP8_1LookDigits: looks have 16 digits, also those whose coins begin with zeros.
func TestP8_1LookDigits(t *testing.T) {
	zeros := 0
	for i := range 500 {
		look := run(t, "open a "+seed1+" 8", fmt.Sprintf(`do a put k %d 1 1 ""`, i), "look a")[2]
		if len(look) != 16 {
			t.Fatalf("%q", look)
		}
		if look[0] == '0' {
			zeros++
		}
	}
	if zeros == 0 {
		t.Error("no look begins with a zero")
	}
}

// TestP8_1Random: random scripts are answered as the plain desk answers them.
func TestP8_1Random(t *testing.T) {
	kinds := map[string]int{}
	for seed := range int64(40) {
		r := rand.New(rand.NewSource(seed))
		lines := anyScript(r, 15000)
		answers := run(t, lines...)
		for i, line := range lines {
			first, _, _ := strings.Cut(line, " ")
			kind, _, _ := strings.Cut(answers[i], " ")
			if first != "look" && first != "size" && first != "mirror" || kind == "bad" || kind == "none" || kind == "down" {
				kinds[first+" "+kind]++
			}
		}
	}
	for _, kind := range []string{"open ok", "open twice", "close ok", "close none", "do new", "do none", "do down", "do gone", "do due", "save saved", "save full", "save down", "save none", "mount up", "mount down", "mount none", "mirror none", "mirror down", "mirror bad", "look none", "size none"} {
		if kinds[kind] < 5 {
			t.Errorf("%s: %d times", kind, kinds[kind])
		}
	}
}

// anyScript returns a random script of about so many bytes.
func anyScript(r *rand.Rand, size int) []string {
	var lines []string
	for size > 0 {
		line := anyLine(r)
		lines = append(lines, line)
		size -= len(line) + 1
	}
	return append(lines, "look a", "look b", "look c", "size a", "size b", "size c")
}

// anyLine returns a random line.
func anyLine(r *rand.Rand) string {
	name := func() string { return string("abcabcabcd"[r.Intn(10)]) }
	fail := func() string {
		if r.Intn(3) == 0 {
			return ""
		}
		return fmt.Sprintf(" %d %d", r.Intn(60), r.Intn(70))
	}
	switch r.Intn(20) {
	case 0, 1:
		return "open " + name() + " " + []string{seed1, seed1, seed2}[r.Intn(3)] + " " + []string{"8", "24", "40"}[r.Intn(3)]
	case 2:
		if r.Intn(3) == 0 {
			return "close " + name()
		}
	case 3, 4, 5:
		return "save " + name() + fail()
	case 6, 7, 8:
		return "mount " + name() + fail()
	case 9:
		return "mirror " + name() + " " + name()
	case 10:
		return "look " + name()
	case 11:
		return "size " + name()
	}
	return "do " + name() + " " + anyChange(r)
}

// anyChange returns a random line for a store.
func anyChange(r *rand.Rand) string {
	key, holder := string("klmnopqr"[r.Intn(8)]), string("hijxyz"[r.Intn(6)])
	switch r.Intn(8) {
	case 0, 1:
		return "drop " + key
	case 2:
		return "hold " + key + " " + holder
	case 3:
		return "free " + key + " " + holder
	}
	return fmt.Sprintf(`put %s %d %d %d "%s"`, key, r.Intn(9), r.Intn(9), r.Intn(8), strings.Repeat("red fox ", r.Intn(9)))
}

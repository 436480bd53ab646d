package keep_test

import (
	"bytes"
	"cmp"
	"fmt"
	"math/big"
	"math/rand"
	"slices"
	"strconv"
	"strings"
	"testing"

	"amnesty/api"
	"amnesty/find"
	"amnesty/keep"
	"amnesty/learn"
	"amnesty/order"
	"amnesty/slots"
)

// entry is a record of a plain list.
type entry struct {
	x, y, label int
	text        string
	holders     string // their names in order, each with a space behind it
	due         bool
}

// plain is the content of a store, by keys. What a store of it answers and shows is worked out from it alone, as P6.1 to P6.5 say it.
type plain map[string]entry

// keys returns the keys in order.
func (p plain) keys() []string {
	var keys []string
	for key := range p {
		keys = append(keys, key)
	}
	slices.Sort(keys)
	return keys
}

func (e entry) names() []string { return strings.Fields(e.holders) }

// withHolders returns the entry with these holders, in any order.
func (e entry) withHolders(names ...string) entry {
	slices.Sort(names)
	e.holders = ""
	for _, name := range names {
		e.holders += name + " "
	}
	return e
}

// value is that of P6.3.
func (e entry) value() []byte {
	dueByte := byte(0)
	if e.due {
		dueByte = 1
	}
	value := []byte{byte(e.x / 256), byte(e.x % 256), byte(e.y / 256), byte(e.y % 256), byte(e.label), dueByte, byte(len(e.names()))}
	for _, name := range e.names() {
		value = append(append(value, byte(len(name))), name...)
	}
	return append(value, e.text...)
}

// numberOf is the number of a key (P6.1).
func numberOf(key string) uint64 {
	number := uint64(0)
	for i := range 8 {
		number *= 256
		if i < len(key) {
			number += uint64(key[i])
		}
	}
	return number
}

// pairs is the store's map (P6.3).
func (p plain) pairs(t *testing.T, seed uint64) *order.Map {
	t.Helper()
	m := order.New(seed)
	for key, e := range p {
		if err := m.Put([]byte(key), e.value()); err != api.OK {
			t.Fatalf("Put of %q into the map: %d", key, err)
		}
	}
	return m
}

// image is P6.4.
func (p plain) image(t *testing.T, seed uint64) []byte {
	t.Helper()
	words, boxes, model := find.NewWords(seed), find.NewBoxes(seed), learn.New()
	for key, e := range p {
		if words.Add(numberOf(key), e.text) != api.OK || boxes.Add(numberOf(key), api.Box{X0: e.x, Y0: e.y, X1: e.x, Y1: e.y}) != api.OK || model.Learn(e.row()) != api.OK {
			t.Fatalf("%q is not taken", key)
		}
	}
	var image []byte
	for _, part := range [][]byte{p.pairs(t, seed).Image(), words.Image(), boxes.Image(), model.Image()} {
		n := len(part)
		image = append(image, byte(n>>24), byte(n>>16), byte(n>>8), byte(n))
		image = append(image, part...)
	}
	return image
}

func (e entry) row() api.Row { return api.Row{X: [3]int{e.x, e.y, 0}, Label: e.label} }

// check holds the bytes of a store against the content.
func (p plain) check(t *testing.T, seed uint64, s *keep.Store) {
	t.Helper()
	if got, want := s.Len(), len(p); got != want {
		t.Fatalf("Len: %d, expected %d", got, want)
	}
	if got, want := s.Records(), p.pairs(t, seed).Image(); !bytes.Equal(got, want) {
		t.Fatalf("Records: %x, expected %x", got, want)
	}
	if got, want := s.Image(), p.image(t, seed); !bytes.Equal(got, want) {
		t.Fatalf("Image: %x, expected %x", got, want)
	}
}

// store returns a store of the content.
func (p plain) store(t *testing.T, seed uint64) *keep.Store {
	t.Helper()
	s := keep.Open(seed)
	for key, e := range p {
		say(t, s, putLine(key, e), "new")
		for _, name := range e.names() {
			say(t, s, "hold "+key+" "+name, "ok")
		}
		if e.due {
			say(t, s, "drop "+key, "due")
		}
	}
	return s
}

// putLine returns the line that puts an entry.
func putLine(key string, e entry) string {
	return fmt.Sprintf(`put %s %d %d %d "%s"`, key, e.x, e.y, e.label, e.text)
}

// say runs a line, and tells where the answer is another one.
func say(t *testing.T, s *keep.Store, line, want string) {
	t.Helper()
	if got := s.Do(line); got != want {
		t.Fatalf("Do(%.300q): %q, expected %q", line, got, want)
	}
}

// sayAll runs lines, each with "->" ahead of its answer.
func sayAll(t *testing.T, s *keep.Store, talk ...string) {
	t.Helper()
	for _, x := range talk {
		line, want, _ := strings.Cut(x, " -> ")
		say(t, s, line, want)
	}
}

// change runs a line that changes something: put, drop, hold or free, and its words (P6.2).
func (p plain) change(w ...string) string {
	e, there := p[w[1]]
	switch {
	case w[0] == "put":
		return p.put(w)
	case !there:
		return "none"
	case w[0] == "drop":
		if e.holders == "" {
			delete(p, w[1])
			return "gone"
		}
		e.due = true
		p[w[1]] = e
		return "due"
	}
	names := e.names()
	held := slices.Contains(names, w[2])
	if w[0] == "hold" {
		if held {
			return "held"
		}
		if len(names) == 8 {
			return "full"
		}
		p[w[1]] = e.withHolders(append(names, w[2])...)
		return "ok"
	}
	if !held {
		return "free"
	}
	e = e.withHolders(slices.DeleteFunc(names, func(name string) bool { return name == w[2] })...)
	if e.due && e.holders == "" {
		delete(p, w[1])
		return "gone"
	}
	p[w[1]] = e
	return "ok"
}

func (p plain) put(w []string) string {
	e, there := p[w[1]]
	if e.due {
		return "due"
	}
	if !there && len(p) == 300 {
		return "full"
	}
	e.x, e.y, e.label, e.text = number(w[2]), number(w[3]), number(w[4]), w[5]
	p[w[1]] = e
	if there {
		return "changed"
	}
	return "new"
}

func number(text string) int {
	n, err := strconv.Atoi(text)
	if err != nil {
		panic(err)
	}
	return n
}

// question answers a line that asks (but for ask): its words (P6.2).
func (p plain) question(t *testing.T, seed uint64, w ...string) string {
	t.Helper()
	w = append(w, "", "")
	e, there := p[w[1]]
	switch w[0] {
	case "get":
		if there {
			return e.told()
		}
		return "none"
	case "count":
		return fmt.Sprint(len(p))
	case "rank":
		return fmt.Sprint(len(p.keysWith(func(key string, _ entry) bool { return key < w[1] })))
	case "span":
		return listed(p.keysWith(func(key string, _ entry) bool { return w[1] <= key && key < w[2] }))
	case "in":
		return p.in(number(w[1]), number(w[2]), number(w[3]), number(w[4]))
	case "near":
		return p.near(number(w[1]), number(w[2]), number(w[3]))
	case "line":
		return p.line()
	case "vote":
		return p.vote(number(w[1]), number(w[2]), number(w[3]))
	case "guess":
		return p.guess(number(w[1]), number(w[2]))
	case "view":
		return p.view()
	case "digest":
		return fmt.Sprintf("%016x", p.pairs(t, seed).Digest())
	case "proof":
		word := map[bool]string{true: "there", false: "missing"}[there]
		return fmt.Sprint(word, " ", len(p.pairs(t, seed).Prove([]byte(w[1]))))
	case "receipt":
		return receiptOf(seed, w[1])
	case "check":
		if w[2] != receiptOf(seed, w[1]) {
			return "false"
		}
		return map[bool]string{true: "there", false: "gone"}[there]
	}
	t.Fatalf("no line begins with %q", w[0])
	return ""
}

// receiptOf is the receipt of a key.
func receiptOf(seed uint64, key string) string {
	return fmt.Sprintf("%016x", slots.Coin(seed, 6, []byte(key)))
}

func (e entry) told() string {
	told := fmt.Sprintf(`%d %d %d "%s"`, e.x, e.y, e.label, e.text)
	if e.holders != "" {
		told += fmt.Sprintf(" held %d", len(e.names()))
	}
	if e.due {
		told += " due"
	}
	return told
}

// listed is a list of keys as span answers it.
func listed(keys []string) string {
	if len(keys) == 0 {
		return "-"
	}
	return strings.Join(keys, " ")
}

// keysWith returns the keys, in order, of the entries of which something is so.
func (p plain) keysWith(so func(key string, e entry) bool) []string {
	return slices.DeleteFunc(p.keys(), func(key string) bool { return !so(key, p[key]) })
}

func (p plain) in(x0, y0, x1, y1 int) string {
	if x0 > x1 || y0 > y1 {
		return "bad"
	}
	return listed(p.keysWith(func(_ string, e entry) bool { return x0 <= e.x && e.x <= x1 && y0 <= e.y && e.y <= y1 }))
}

func (e entry) square(x, y int) int { return (e.x-x)*(e.x-x) + (e.y-y)*(e.y-y) }

func (p plain) near(x, y, n int) string {
	keys := p.keys()
	slices.SortStableFunc(keys, func(a, b string) int { return cmp.Compare(p[a].square(x, y), p[b].square(x, y)) })
	return listed(keys[:min(n, len(keys))])
}

// line is P5.2, with the slope from the differences of all pairs of records, and the base from their means.
func (p plain) line() string {
	var up, square, x, y int64
	for _, e := range p {
		x, y = x+int64(e.x), y+int64(e.y)
		for _, other := range p {
			d := int64(e.x - other.x)
			up, square = up+d*int64(e.y-other.y), square+d*d
		}
	}
	if square == 0 {
		return "none"
	}
	n := int64(len(p))
	slope := big.NewRat(up, square)
	base := new(big.Rat).Mul(slope, big.NewRat(x, n))
	base.Sub(big.NewRat(y, n), base)
	return slope.String() + " " + base.String()
}

// vote is P5.4: equal distances in the order of the points, then of the labels.
func (p plain) vote(x, y, k int) string {
	var list []entry
	for _, e := range p {
		list = append(list, e)
	}
	slices.SortFunc(list, func(a, b entry) int {
		return slices.Compare([]int{a.square(x, y), a.x, a.y, a.label}, []int{b.square(x, y), b.x, b.y, b.label})
	})
	list = list[:min(k, len(list))]
	var votes [8]int
	for _, e := range list {
		votes[e.label]++
	}
	for _, e := range list {
		if votes[e.label] == slices.Max(votes[:]) {
			return fmt.Sprint(e.label)
		}
	}
	return "none"
}

// guess is P5.5.
func (p plain) guess(x, y int) string {
	best, greatest := "none", new(big.Rat)
	for label := range 8 {
		var n, sameX, sameY int64
		for _, e := range p {
			if e.label == label {
				n++
				sameX += map[bool]int64{true: 1}[e.x == x]
				sameY += map[bool]int64{true: 1}[e.y == y]
			}
		}
		worth := big.NewRat(n*(sameX+1)*(sameY+1)*(n+1), (n+2)*(n+2)*(n+2))
		if worth.Cmp(greatest) > 0 {
			best, greatest = fmt.Sprint(label), worth
		}
	}
	return best
}

func (p plain) view() string {
	var parts []string
	for label := range 8 {
		n, x, y := 0, 0, 0
		for _, e := range p {
			if e.label == label {
				n, x, y = n+1, x+e.x, y+e.y
			}
		}
		if n > 0 {
			parts = append(parts, fmt.Sprint(label, n, x, y))
		}
	}
	if len(parts) == 0 {
		return "-"
	}
	return strings.Join(parts, "; ")
}

// The records of random stores: few keys, holders, numbers and words, so that much is equal.
var (
	someKeys    = []string{"a", "a0", "aa", "ab", "b", "0", "z", "zzzzzzzz", "abcdefgh", "abcdefgi"}
	someHolders = []string{"a", "b", "ab", "court", "z9", "abcdefgh", "0", "bank", "h1", "h2"}
	someWords   = []string{"red", "Red", "fox", "foxes", "RUNS", "2", "o'clock", "a,b", "-", "!"}
	someNumbers = []int{0, 1, 2, 3, 4, 5, 255, 256, 999, 1000}
)

func one[T any](r *rand.Rand, list []T) T { return list[r.Intn(len(list))] }

// few returns a number of the first five, mostly.
func few(r *rand.Rand) int {
	if r.Intn(5) == 0 {
		return one(r, someNumbers)
	}
	return r.Intn(5)
}

func anyText(r *rand.Rand) string {
	var words []string
	for range r.Intn(5) {
		words = append(words, one(r, someWords))
	}
	return strings.Join(words, " ")
}

// anyChange returns the words of some line that may change something, of so many holders.
func anyChange(r *rand.Rand, holders int) []string {
	key, holder := one(r, someKeys), one(r, someHolders[:holders])
	switch r.Intn(8) {
	case 0, 1, 2:
		return []string{"put", key, fmt.Sprint(few(r)), fmt.Sprint(few(r)), fmt.Sprint(r.Intn(8)), anyText(r)}
	case 3:
		return []string{"drop", key}
	case 4, 5:
		return []string{"hold", key, holder}
	}
	return []string{"free", key, holder}
}

// anyPlain returns the content that some changes leave.
func anyPlain(r *rand.Rand, changes int) plain {
	p := plain{}
	for range changes {
		p.change(anyChange(r, 3)...)
	}
	return p
}

// lineOf returns a line of these words, of which the sixth one, a text, is quoted; with some spaces more than are needed.
func lineOf(r *rand.Rand, w []string) string {
	line := strings.Repeat(" ", r.Intn(3)*r.Intn(2))
	for i, x := range w {
		if i == 5 {
			x = `"` + x + `"`
		}
		line += x + strings.Repeat(" ", 1+r.Intn(3)*r.Intn(2))
	}
	if r.Intn(2) == 0 {
		line = strings.TrimRight(line, " ")
	}
	return line
}

// questions returns the words of lines of each kind that asks, but for ask.
func questions(seed uint64) [][]string {
	lists := [][]string{{"count"}, {"line"}, {"view"}, {"digest"}}
	for i, key := range append([]string{"y", "a00"}, someKeys...) {
		receipt := receiptOf(seed, key)
		lists = append(lists, []string{"get", key}, []string{"rank", key}, []string{"proof", key}, []string{"receipt", key},
			[]string{"check", key, receipt}, []string{"check", one(rand.New(rand.NewSource(int64(i))), someKeys), receipt})
		for _, other := range someKeys {
			lists = append(lists, []string{"span", key, other})
		}
	}
	for _, x := range []string{"0", "1", "3", "256", "1000"} {
		for _, y := range []string{"0", "2", "4", "1000"} {
			lists = append(lists, []string{"guess", x, y}, []string{"in", x, y, "3", "4"}, []string{"in", "1", "0", x, y})
			for _, n := range []string{"1", "2", "3", "5", "999999999"} {
				lists = append(lists, []string{"near", x, y, n}, []string{"vote", x, y, n})
			}
		}
	}
	return lists
}

// checkQuestions holds the answers of a store against the content.
func (p plain) checkQuestions(t *testing.T, seed uint64, s *keep.Store) {
	t.Helper()
	for _, w := range questions(seed) {
		say(t, s, strings.Join(w, " "), p.question(t, seed, w...))
	}
}

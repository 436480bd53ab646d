package find_test

import (
	"bytes"
	"cmp"
	"fmt"
	"math/rand"
	"slices"
	"strings"
	"testing"

	"amnesty/api"
	"amnesty/find"
	"amnesty/order"
)

// texts is the content of an index of words. What an index of it shows is worked out from the texts alone, as P4.1 to P4.5 say it.
type texts map[uint64]string

// wordsIn is P4.1, byte for byte.
func wordsIn(text string) []string {
	var words []string
	for len(text) > 0 {
		n := 0
		for n < len(text) && isLetter(text[n]) {
			n++
		}
		if n == 0 {
			text = text[1:]
			continue
		}
		word := ""
		for _, c := range []byte(text[:min(n, 20)]) {
			if c >= 'A' && c <= 'Z' {
				c += 'a' - 'A'
			}
			word += string([]byte{c})
		}
		words, text = append(words, word), text[n:]
	}
	return words
}

func isLetter(c byte) bool {
	return strings.IndexByte("abcdefghijklmnopqrstuvwxyzABCDEFGHIJKLMNOPQRSTUVWXYZ0123456789", c) >= 0
}

func sorted[V any](content map[uint64]V) []uint64 {
	var numbers []uint64
	for id := range content {
		numbers = append(numbers, id)
	}
	slices.Sort(numbers)
	return numbers
}

// bigBytes is a number as so many bytes, the greatest one first.
func bigBytes(n uint64, size int) []byte {
	b := make([]byte, size)
	for i := range b {
		b[size-1-i] = byte(n >> (8 * i))
	}
	return b
}

// image is P4.5.
func (x texts) image(t *testing.T, seed uint64) []byte {
	t.Helper()
	m := order.New(seed)
	for id, text := range x {
		words := wordsIn(text)
		places := map[string][]byte{}
		for i, word := range words {
			places[word] = append(places[word], byte(i/256), byte(i%256))
		}
		for word, value := range places {
			mustPut(t, m, append([]byte(word+"\x00"), bigBytes(id, 8)...), value)
		}
		mustPut(t, m, append([]byte{0}, bigBytes(id, 8)...), bigBytes(uint64(len(words)), 2))
	}
	return m.Image()
}

func mustPut(t *testing.T, m *order.Map, key, value []byte) {
	t.Helper()
	if e := m.Put(key, value); e != api.OK {
		t.Fatalf("the pair %q, %v is refused: %d", key, value, e)
	}
}

// index returns an index to which the texts were added.
func (x texts) index(t *testing.T, seed uint64) *find.Words {
	t.Helper()
	w := find.NewWords(seed)
	for _, id := range sorted(x) {
		addText(t, w, id, x[id])
	}
	return w
}

func addText(t *testing.T, w *find.Words, id uint64, text string) {
	t.Helper()
	if e := w.Add(id, text); e != api.OK {
		t.Fatalf("Add(%d, %q): %d", id, text, e)
	}
}

func dropText(t *testing.T, w *find.Words, id uint64) {
	t.Helper()
	if e := w.Drop(id); e != api.OK {
		t.Fatalf("Drop(%d): %d", id, e)
	}
}

// check holds an index against its content.
func (x texts) check(t *testing.T, seed uint64, w *find.Words) {
	t.Helper()
	if w.Len() != len(x) {
		t.Fatalf("Len of %d texts: %d", len(x), w.Len())
	}
	if got, want := w.Image(), x.image(t, seed); !bytes.Equal(got, want) {
		t.Fatalf("the image of %v with the seed %d is\n%q, expected\n%q", x, seed, got, want)
	}
}

// asked is a question as a plain tree: a letter tells of which form.
type asked struct {
	form  byte // w: word, *: beginning, ": phrase, !: not, &: and, |: or
	words []string
	parts []asked
}

// answers is P4.3 for one text.
func (a asked) answers(words []string) bool {
	holds := func(p asked) bool { return p.answers(words) }
	fails := func(p asked) bool { return !p.answers(words) }
	switch a.form {
	case 'w':
		return slices.Contains(words, a.words[0])
	case '*':
		return slices.ContainsFunc(words, func(w string) bool { return strings.HasPrefix(w, a.words[0]) })
	case '"':
		for i := 0; i+len(a.words) <= len(words); i++ {
			if slices.Equal(words[i:i+len(a.words)], a.words) {
				return true
			}
		}
		return false
	case '!':
		return fails(a.parts[0])
	case '&':
		return !slices.ContainsFunc(a.parts, fails)
	}
	return slices.ContainsFunc(a.parts, holds)
}

// ask is P4.4.
func (x texts) ask(a asked) []uint64 {
	var numbers []uint64
	for _, id := range sorted(x) {
		if a.answers(wordsIn(x[id])) {
			numbers = append(numbers, id)
		}
	}
	return numbers
}

// write writes a question, with blanks, great letters and parentheses as they happen to fall.
func (a asked) write(r *rand.Rand) string {
	text, name := "", ""
	if len(a.words) > 0 {
		name = mixed(r, a.words[0])
	}
	switch a.form {
	case 'w':
		text = name
	case '*':
		text = name + "*"
	case '"':
		text = "\"" + blank(r, 0)
		for i, word := range a.words {
			if i > 0 {
				text += blank(r, 1)
			}
			text += mixed(r, word)
		}
		text += blank(r, 0) + "\""
	case '!':
		text = "!" + blank(r, 0) + a.parts[0].enclosed(r, "&|")
	case '&':
		for i, p := range a.parts {
			next := p.enclosed(r, "&|")
			if i > 0 {
				apart := 0
				if isLetter(text[len(text)-1]) && isLetter(next[0]) {
					apart = 1
				}
				text += blank(r, apart)
			}
			text += next
		}
	case '|':
		for i, p := range a.parts {
			if i > 0 {
				text += blank(r, 0) + "|" + blank(r, 0)
			}
			text += p.enclosed(r, "|")
		}
	}
	if r.Intn(12) == 0 {
		text = "(" + blank(r, 0) + text + blank(r, 0) + ")"
	}
	return text
}

// enclosed writes a question, in parentheses if it has one of some forms.
func (a asked) enclosed(r *rand.Rand, forms string) string {
	text := a.write(r)
	if strings.IndexByte(forms, a.form) >= 0 {
		return "(" + blank(r, 0) + text + blank(r, 0) + ")"
	}
	return text
}

func blank(r *rand.Rand, least int) string {
	text := ""
	for range least + r.Intn(2)*r.Intn(3) {
		text += string(" \t"[r.Intn(2)])
	}
	return text
}

func mixed(r *rand.Rand, word string) string {
	if r.Intn(3) == 0 {
		return strings.ToUpper(word)
	}
	return word
}

// anyAsked returns some question about some words.
func anyAsked(r *rand.Rand, words []string, deep int) asked {
	word := func() string { return words[r.Intn(len(words))] }
	form := "w*\"!&|"[r.Intn(6)]
	if deep == 0 {
		form = "w*\""[r.Intn(3)]
	}
	switch form {
	case 'w':
		return asked{form: form, words: []string{word()}}
	case '*':
		w := word()
		return asked{form: form, words: []string{w[:1+r.Intn(len(w))]}}
	case '"':
		var list []string
		for range r.Intn(4) {
			list = append(list, word())
		}
		return asked{form: form, words: list}
	case '!':
		return asked{form: form, parts: []asked{anyAsked(r, words, deep-1)}}
	}
	var parts []asked
	for range 2 + r.Intn(2) {
		parts = append(parts, anyAsked(r, words, deep-1))
	}
	return asked{form: form, parts: parts}
}

// boxes is the content of an index of rectangles.
type boxes map[uint64]api.Box

// image is P4.8.
func (x boxes) image(t *testing.T, seed uint64) []byte {
	t.Helper()
	m := order.New(seed)
	for id, box := range x {
		woven := uint64(0)
		for i := range 16 {
			if box.X0&(1<<i) != 0 {
				woven |= 1 << (2 * i)
			}
			if box.Y0&(1<<i) != 0 {
				woven |= 1 << (2*i + 1)
			}
		}
		key := append(bigBytes(woven, 4), bigBytes(id, 8)...)
		mustPut(t, m, key, append(bigBytes(uint64(box.X1), 2), bigBytes(uint64(box.Y1), 2)...))
	}
	return m.Image()
}

// index returns an index to which the boxes were added.
func (x boxes) index(t *testing.T, seed uint64) *find.Boxes {
	t.Helper()
	b := find.NewBoxes(seed)
	for _, id := range sorted(x) {
		addBox(t, b, id, x[id])
	}
	return b
}

func addBox(t *testing.T, b *find.Boxes, id uint64, box api.Box) {
	t.Helper()
	if e := b.Add(id, box); e != api.OK {
		t.Fatalf("Add(%d, %v): %d", id, box, e)
	}
}

func dropBox(t *testing.T, b *find.Boxes, id uint64) {
	t.Helper()
	if e := b.Drop(id); e != api.OK {
		t.Fatalf("Drop(%d): %d", id, e)
	}
}

// check holds an index against its content.
func (x boxes) check(t *testing.T, seed uint64, b *find.Boxes) {
	t.Helper()
	if b.Len() != len(x) {
		t.Fatalf("Len of %d boxes: %d", len(x), b.Len())
	}
	if got, want := b.Image(), x.image(t, seed); !bytes.Equal(got, want) {
		t.Fatalf("the image of %v with the seed %d is\n%v, expected\n%v", x, seed, got, want)
	}
}

// points calls visit for each point of a box.
func points(box api.Box, visit func(x, y int)) {
	for x := box.X0; x <= box.X1; x++ {
		for y := box.Y0; y <= box.Y1; y++ {
			visit(x, y)
		}
	}
}

// touch looks, point for point, which boxes share one with a box.
func (x boxes) touch(with api.Box) []uint64 {
	inside := map[[2]int]bool{}
	points(with, func(px, py int) { inside[[2]int{px, py}] = true })
	var numbers []uint64
	for _, id := range sorted(x) {
		shared := false
		points(x[id], func(px, py int) { shared = shared || inside[[2]int{px, py}] })
		if shared {
			numbers = append(numbers, id)
		}
	}
	return numbers
}

// near looks, point for point, how far the boxes are from a point.
func (x boxes) near(px, py, k int) []uint64 {
	far := map[uint64]int{}
	for id, box := range x {
		far[id] = 1 << 40
		points(box, func(qx, qy int) { far[id] = min(far[id], (px-qx)*(px-qx)+(py-qy)*(py-qy)) })
	}
	numbers := sorted(x)
	slices.SortStableFunc(numbers, func(a, b uint64) int { return cmp.Compare(far[a], far[b]) })
	return numbers[:min(k, len(numbers))]
}

// checkAsk asks a question, and holds the answer against what is expected.
func checkAsk(t *testing.T, w *find.Words, question string, want ...uint64) {
	t.Helper()
	if got, e := w.Ask(question); e != api.OK || !slices.Equal(got, want) {
		t.Errorf("Ask(%q): %v, %d, expected %v", question, got, e, want)
	}
}

// checkForm asks a question that is not well formed.
func checkForm(t *testing.T, w *find.Words, question string) {
	t.Helper()
	if got, e := w.Ask(question); e != api.ErrForm || len(got) != 0 {
		t.Errorf("Ask(%q): %v, %d, expected ErrForm", question, got, e)
	}
}

func checkTouch(t *testing.T, b *find.Boxes, box api.Box, want ...uint64) {
	t.Helper()
	if got, e := b.Touch(box); e != api.OK || !slices.Equal(got, want) {
		t.Errorf("Touch(%v): %v, %d, expected %v", box, got, e, want)
	}
}

func checkNear(t *testing.T, b *find.Boxes, x, y, k int, want ...uint64) {
	t.Helper()
	if got, e := b.Near(x, y, k); e != api.OK || !slices.Equal(got, want) {
		t.Errorf("Near(%d, %d, %d): %v, %d, expected %v", x, y, k, got, e, want)
	}
}

// box returns the box from one corner to another one.
func box(x0, y0, x1, y1 int) api.Box { return api.Box{X0: x0, Y0: y0, X1: x1, Y1: y1} }

// numbered returns the numbers from one on that are less than another one.
func numbered(from, to uint64) []uint64 {
	var numbers []uint64
	for id := from; id < to; id++ {
		numbers = append(numbers, id)
	}
	return numbers
}

func show(words []string) string { return fmt.Sprintf("%q", words) }

package find_test

import (
	"bytes"
	"math"
	"math/rand"
	"slices"
	"strings"
	"testing"

	"amnesty/api"
	"amnesty/find"
	"amnesty/order"
)

const alphabet = "abcdefghijklmnopqrstuvwxyz"

func TestP4_1Split(t *testing.T) {
	for _, x := range []struct {
		text string
		want []string
	}{
		{"", nil},
		{" ", nil},
		{"\x00\xFF -- \n", nil},
		{"It's 2 o'Clock, isn't it", []string{"it", "s", "2", "o", "clock", "isn", "t", "it"}},
		{"a", []string{"a"}},
		{"-a", []string{"a"}},
		{"a-", []string{"a"}},
		{"a-b", []string{"a", "b"}},
		{"a  b\tc\nd\x00e", []string{"a", "b", "c", "d", "e"}},
		{"AZaz09", []string{"azaz09"}},
		{"007", []string{"007"}},
		{"again again", []string{"again", "again"}},
		{"x_y", []string{"x", "y"}},
		{"@A[Z`a{z/0:9", []string{"a", "z", "a", "z", "0", "9"}},
	} {
		if got := find.Split(x.text); !slices.Equal(got, x.want) {
			t.Errorf("Split(%q): %q, expected %q", x.text, got, x.want)
		}
	}
}

func TestP4_1SplitCuts(t *testing.T) {
	long := alphabet[:25]
	for _, x := range []struct {
		text string
		want []string
	}{
		{alphabet[:19], []string{alphabet[:19]}},
		{alphabet[:20], []string{alphabet[:20]}},
		{alphabet[:21], []string{alphabet[:20]}},
		{long, []string{alphabet[:20]}},
		{long + " z", []string{alphabet[:20], "z"}},
		{"z " + strings.ToUpper(long), []string{"z", alphabet[:20]}},
		{long + "," + long, []string{alphabet[:20], alphabet[:20]}},
		{strings.Repeat("7", 100000), []string{strings.Repeat("7", 20)}},
	} {
		if got := find.Split(x.text); !slices.Equal(got, x.want) {
			t.Errorf("Split(%.40q): %q, expected %q", x.text, got, x.want)
		}
	}
}

// TestP4_1SplitOfOtherLetters: letters beyond ASCII separate words, also those of which the small or the great one is in ASCII, and so do bytes that are no letters at all.
func TestP4_1SplitOfOtherLetters(t *testing.T) {
	for text, want := range map[string]string{
		"caf\u00e9s":                   `["caf" "s"]`,
		"\u212aelvin":                  `["elvin"]`,
		"a\u212ab":                     `["a" "b"]`,
		"mi\u017fs":                    `["mi" "s"]`,
		"\u0130i\u0131":                `["i"]`,
		"\uff41a\uff11":                `["a"]`,
		"\u0663x\u00b2":                `["x"]`,
		"a\U0001F600b":                 `["a" "b"]`,
		"a\xC3b":                       `["a" "b"]`,
		"a\xE2\x84b":                   `["a" "b"]`,
		"\x80a\xC1\x81b\xFF":           `["a" "b"]`,
		"e\u0301":                      `["e"]`,
		"\xEF\xBF\xBDa\xEF\xBF\xBDb":   `["a" "b"]`,
		alphabet + "\u00e9" + alphabet: `["abcdefghijklmnopqrst" "abcdefghijklmnopqrst"]`,
	} {
		if got := show(find.Split(text)); got != want {
			t.Errorf("Split(%q): %s, expected %s", text, got, want)
		}
	}
}

func TestP4_1SplitAtEachByte(t *testing.T) {
	for c := range 256 {
		for _, text := range []string{string([]byte{byte(c)}), "a" + string([]byte{byte(c)}) + "b", string([]byte{byte(c), byte(c), 'X', byte(c)})} {
			if got, want := show(find.Split(text)), show(wordsIn(text)); got != want {
				t.Errorf("Split(%q): %s, expected %s", text, got, want)
			}
		}
	}
}

func TestP4_1SplitOfManyTexts(t *testing.T) {
	r := rand.New(rand.NewSource(41))
	for range 3000 {
		text := anyText(r, 80)
		if got, want := show(find.Split(text)), show(wordsIn(text)); got != want {
			t.Fatalf("Split(%q): %s, expected %s", text, got, want)
		}
	}
}

// anyText returns some text of few letters and marks, and of any bytes.
func anyText(r *rand.Rand, most int) string {
	var b []byte
	for range r.Intn(most + 1) {
		switch r.Intn(12) {
		case 0:
			b = append(b, byte(r.Intn(256)))
		case 1:
			b = append(b, "\u00e9"...)
		case 2, 3:
			b = append(b, " -'"[r.Intn(3)])
		default:
			b = append(b, "aabBZ9"[r.Intn(6)])
		}
	}
	return string(b)
}

func TestP4_2AddRefuses(t *testing.T) {
	content := texts{1: "red fox", 2: ""}
	w := content.index(t, 5)
	long := strings.Repeat("a ", api.MaxText)
	for _, x := range []struct {
		what string
		id   uint64
		text string
		want api.Errno
	}{
		{"a text that is too long", 3, long[:api.MaxText+1], api.ErrArg},
		{"a text without words that is too long", 3, strings.Repeat(" ", api.MaxText+1), api.ErrArg},
		{"a text that is much too long", 3, strings.Repeat(long, 1000), api.ErrArg},
		{"a text that is too long, under a number that is there", 1, long, api.ErrArg},
		{"another text under a number that is there", 1, "other", api.ErrTwice},
		{"the same text again", 1, "red fox", api.ErrTwice},
		{"a text under the number of one without words", 2, "other", api.ErrTwice},
		{"a text without words under a number that is there", 1, "", api.ErrTwice},
	} {
		if e := w.Add(x.id, x.text); e != x.want {
			t.Errorf("Add of %s: %d, expected %d", x.what, e, x.want)
		}
		content.check(t, 5, w)
	}
}

func TestP4_2AddTakesLongTexts(t *testing.T) {
	content := texts{}
	w := find.NewWords(9)
	for id, text := range []string{
		strings.Repeat("a ", api.MaxText/2),
		strings.Repeat("a", api.MaxText),
		strings.Repeat(" ", api.MaxText),
		strings.Repeat("\xFF", api.MaxText),
		(strings.Repeat(alphabet+" ", 30))[:api.MaxText],
		(strings.Repeat("ab 12 ", 200))[:api.MaxText],
		strings.Repeat("b", api.MaxText-1),
	} {
		addText(t, w, uint64(id), text)
		content[uint64(id)] = text
		content.check(t, 9, w)
	}
}

func TestP4_2Numbers(t *testing.T) {
	content := texts{0: "zero", 1: "one", 255: "many", 256: "more", 1 << 63: "half", math.MaxUint64: "all", math.MaxUint64 - 1: ""}
	w := content.index(t, 2)
	content.check(t, 2, w)
	checkAsk(t, w, `""`, 0, 1, 255, 256, 1<<63, math.MaxUint64-1, math.MaxUint64)
	checkAsk(t, w, "o* | m* | all", 1, 255, 256, math.MaxUint64)
	for _, id := range []uint64{2, 257, 1 << 16, 1<<56 + 1, 1<<63 - 1, math.MaxUint64 - 2} {
		if e := w.Drop(id); e != api.ErrNone {
			t.Errorf("Drop(%d), which is not there: %d", id, e)
		}
	}
	content.check(t, 2, w)
	for _, id := range sorted(content) {
		dropText(t, w, id)
		delete(content, id)
		content.check(t, 2, w)
	}
}

func TestP4_2Drop(t *testing.T) {
	content := texts{1: "a b a", 2: "a b", 3: "a", 4: "", 5: "c"}
	w := content.index(t, 8)
	for _, id := range []uint64{0, 6, math.MaxUint64} {
		if e := w.Drop(id); e != api.ErrNone {
			t.Errorf("Drop(%d), which is not there: %d", id, e)
		}
		content.check(t, 8, w)
	}
	for _, id := range []uint64{4, 1, 5, 3, 2} {
		dropText(t, w, id)
		delete(content, id)
		content.check(t, 8, w)
		if e := w.Drop(id); e != api.ErrNone {
			t.Errorf("Drop(%d), again: %d", id, e)
		}
	}
	addText(t, w, 1, "again")
	texts{1: "again"}.check(t, 8, w)
}

func TestP4_2Full(t *testing.T) {
	content := texts{}
	w := find.NewWords(7)
	for id := range uint64(api.MaxItems) {
		content[id*3] = []string{"", "a", "a b", "b a b"}[id%4]
		addText(t, w, id*3, content[id*3])
	}
	content.check(t, 7, w)
	for _, x := range []struct {
		id   uint64
		text string
		want api.Errno
	}{{1, "a", api.ErrFull}, {1, "", api.ErrFull}, {3, "a", api.ErrTwice}, {1, strings.Repeat("a", api.MaxText+1), api.ErrArg}, {math.MaxUint64, "new", api.ErrFull}} {
		if e := w.Add(x.id, x.text); e != x.want {
			t.Errorf("Add(%d, %.5q) to a full index: %d, expected %d", x.id, x.text, e, x.want)
		}
	}
	content.check(t, 7, w)
	dropText(t, w, 300)
	addText(t, w, 1, "new")
	delete(content, 300)
	content[1] = "new"
	content.check(t, 7, w)
	if e := w.Add(300, ""); e != api.ErrFull {
		t.Errorf("Add to an index that is full again: %d", e)
	}
}

// TestP4_2FullOfLongTexts: as many pairs as an index can have fit in a map.
func TestP4_2FullOfLongTexts(t *testing.T) {
	const letters = alphabet + "0123456789"
	var words []string
	for i := range letters {
		words = append(words, letters[i:i+1])
	}
	for i := range letters {
		for j := range letters {
			words = append(words, letters[i:i+1]+letters[j:j+1])
		}
	}
	text := strings.Join(words, " ")[:api.MaxText]
	w := find.NewWords(1)
	for id := range uint64(api.MaxItems) {
		addText(t, w, id, text)
	}
	m, e := order.Load(1, w.Image())
	if want := api.MaxItems * (len(wordsIn(text)) + 1); e != api.OK || m.Len() != want || want < 60000 {
		t.Fatalf("a full index has %d pairs, expected %d", m.Len(), want)
	}
	checkAsk(t, w, "a b c z 9 ab ac", numbered(0, api.MaxItems)...)
	checkAsk(t, w, `"9 aa ab ac ad" !"aa ab ad"`, numbered(0, api.MaxItems)...)
	for id := range uint64(api.MaxItems) {
		dropText(t, w, id)
	}
	texts{}.check(t, 1, w)
}

// TestP4_5Image: the bytes of images that are written out.
func TestP4_5Image(t *testing.T) {
	w := find.NewWords(3)
	if got := w.Image(); string(got) != "\x00\x00\x00\x00" {
		t.Errorf("the image of no texts: %q", got)
	}
	addText(t, w, 0x0102030405060708, "-- !")
	if got := w.Image(); string(got) != "\x01\x00\x00\x00"+"\x00\x09\x02\x00"+"\x00\x01\x02\x03\x04\x05\x06\x07\x08"+"\x00\x00" {
		t.Errorf("the image of a text without words: %q", got)
	}
	v, m := find.NewWords(6), order.New(6)
	addText(t, v, 7, "A, b: a!")
	id := "\x00\x00\x00\x00\x00\x00\x00\x00\x07"
	mustPut(t, m, []byte("a"+id), []byte{0, 0, 0, 2})
	mustPut(t, m, []byte("b"+id), []byte{0, 1})
	mustPut(t, m, []byte(id), []byte{0, 3})
	if !bytes.Equal(v.Image(), m.Image()) {
		t.Errorf("the image of one text: %q, expected %q", v.Image(), m.Image())
	}
}

// TestP4_5Places: places and counts beyond 255, and words that were cut.
func TestP4_5Places(t *testing.T) {
	w, m := find.NewWords(4), order.New(4)
	addText(t, w, 1, strings.Repeat("a ", 298)+"b a")
	id := "\x00\x00\x00\x00\x00\x00\x00\x00\x01"
	var places []byte
	for i := range 300 {
		if i != 298 {
			places = append(places, byte(i>>8), byte(i))
		}
	}
	mustPut(t, m, []byte("a"+id), places)
	mustPut(t, m, []byte("b"+id), []byte{1, 42})
	mustPut(t, m, []byte(id), []byte{1, 44})
	if !bytes.Equal(w.Image(), m.Image()) {
		t.Errorf("the image of 300 words is not that of their places")
	}
	cut := find.NewWords(4)
	addText(t, cut, 1, alphabet+" "+alphabet[:20]+" "+alphabet[:21]+" "+alphabet[:19])
	texts{1: alphabet[:20] + " " + alphabet[:20] + " " + alphabet[:20] + " " + alphabet[:19]}.check(t, 4, cut)
}

// TestT1WordsOneShape lets indexes grow and shrink, and holds them against their content after each call.
func TestT1WordsOneShape(t *testing.T) {
	for seed := range uint64(30) {
		r := rand.New(rand.NewSource(int64(seed)))
		most := []int{1, 3, 8, 20}[seed%4]
		w, content := find.NewWords(seed), texts{}
		for range 50 {
			id := uint64(r.Intn(2 * most))
			if _, there := content[id]; there && r.Intn(3) > 0 {
				dropText(t, w, id)
				delete(content, id)
			} else if there {
				if e := w.Add(id, anyText(r, 20)); e != api.ErrTwice {
					t.Fatalf("Add of a number that is there: %d", e)
				}
			} else {
				content[id] = anyText(r, 40)
				addText(t, w, id, content[id])
			}
			content.check(t, seed, w)
		}
	}
}

// TestT1WordsInAnyOrder: texts that were added in any order have one image, and give the same answers.
func TestT1WordsInAnyOrder(t *testing.T) {
	content := texts{1: "red fox runs", 2: "The RED house", 3: "fox in a red house", 4: ""}
	ids := sorted(content)
	r := rand.New(rand.NewSource(1))
	for range 30 {
		r.Shuffle(len(ids), func(i, j int) { ids[i], ids[j] = ids[j], ids[i] })
		w := find.NewWords(11)
		for _, id := range ids {
			addText(t, w, id, content[id])
		}
		content.check(t, 11, w)
		checkAsk(t, w, "red !fox | in | !r*", 2, 3, 4)
	}
}

// TestT4WordsForget: a text that was dropped leaves nothing, whatever else was there.
func TestT4WordsForget(t *testing.T) {
	r := rand.New(rand.NewSource(4))
	for seed := range uint64(20) {
		content, gone := texts{}, texts{}
		for range 12 {
			content[uint64(r.Intn(100))] = anyText(r, 60)
			gone[100+uint64(r.Intn(100))] = anyText(r, 60)
		}
		w := find.NewWords(seed)
		for id, text := range gone {
			addText(t, w, id, text)
		}
		for id, text := range content {
			addText(t, w, id, text)
		}
		for id := range gone {
			dropText(t, w, id)
		}
		never := content.index(t, seed)
		if !bytes.Equal(w.Image(), never.Image()) {
			t.Fatalf("an index that forgot has another image than one that was never told")
		}
		content.check(t, seed, w)
		checkAsk(t, w, `""`, sorted(content)...)
	}
}

// TestP7WordsImage: an image is that of a map of the seed of the index.
func TestP7WordsImage(t *testing.T) {
	content := texts{1: "a b a", 2: "b c", 9: ""}
	for _, seed := range []uint64{0, 1, math.MaxUint64} {
		image := content.index(t, seed).Image()
		m, e := order.Load(seed, image)
		if e != api.OK || !bytes.Equal(m.Image(), image) || m.Len() != 7 {
			t.Errorf("the image with the seed %d is no map's: %d", seed, e)
		}
	}
}

func TestP1NilAndZeroWords(t *testing.T) {
	for name, w := range map[string]*find.Words{"nil": nil, "zero": {}} {
		for _, text := range []string{"", "a", strings.Repeat("a", 2000)} {
			if e := w.Add(1, text); e != api.ErrArg {
				t.Errorf("%s: Add: %d, expected ErrArg", name, e)
			}
		}
		if e := w.Drop(1); e != api.ErrArg {
			t.Errorf("%s: Drop: %d, expected ErrArg", name, e)
		}
		if w.Len() != 0 || len(w.Image()) != 0 {
			t.Errorf("%s: %d texts, the image %v", name, w.Len(), w.Image())
		}
		for _, question := range []string{"a", "a*", `""`, `"a b"`, "!a", "!(a | b) c", "!" + `""`, strings.Repeat("!", 50) + "a"} {
			checkAsk(t, w, question)
		}
		for _, question := range []string{"", "a |", "(", "a-b", strings.Repeat("a ", 301), strings.Repeat("!", 51) + "a"} {
			checkForm(t, w, question)
		}
	}
}

// TestP1CopiedWords: Words that a caller copied are the same index still.
func TestP1CopiedWords(t *testing.T) {
	w := find.NewWords(1)
	addText(t, w, 1, "a")
	copied := *w
	addText(t, &copied, 2, "b")
	dropText(t, w, 1)
	texts{2: "b"}.check(t, 1, w)
	texts{2: "b"}.check(t, 1, &copied)
}

// TestP3WordsMemory: results may be written over.
func TestP3WordsMemory(t *testing.T) {
	content := texts{1: "a b a", 2: "b c", 3: "c"}
	w := content.index(t, 6)
	for _, question := range []string{"a", "b", "b*", `""`, `"b c"`, "!a", "(b)", "a | b", "b c"} {
		want, _ := w.Ask(question)
		got, _ := w.Ask(question)
		for i := range got {
			got[i] = 77
		}
		_ = append(got, 78, 79)
		checkAsk(t, w, question, want...)
	}
	image := w.Image()
	clear(image)
	content.check(t, 6, w)
	words := find.Split("one two")
	other := find.Split("one two")
	words[0] = "three"
	if show(other) != `["one" "two"]` {
		t.Errorf("two results of Split share memory")
	}
}

// TestP4AskChangesNothing: questions leave an index as it is, and have the same answer again.
func TestP4AskChangesNothing(t *testing.T) {
	content := texts{1: "a b a", 2: "b c", 3: ""}
	w := content.index(t, 6)
	for range 3 {
		checkAsk(t, w, "!a b* | !b", 2, 3)
		checkForm(t, w, "(a")
		content.check(t, 6, w)
	}
}

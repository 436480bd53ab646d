package keep_test

import (
	"bytes"
	"fmt"
	"math/rand"
	"slices"
	"strings"
	"testing"

	"amnesty/api"
	"amnesty/keep"
	"amnesty/order"
)

// mapOf is the image of a map with these keys and values.
func mapOf(t *testing.T, seed uint64, pairs ...string) []byte {
	t.Helper()
	m := order.New(seed)
	for i := 0; i < len(pairs); i += 2 {
		if err := m.Put([]byte(pairs[i]), []byte(pairs[i+1])); err != api.OK {
			t.Fatalf("Put of %q: %d", pairs[i], err)
		}
	}
	return m.Image()
}

// load returns the store of an image of its map.
func load(t *testing.T, seed uint64, records []byte) *keep.Store {
	t.Helper()
	s, err := keep.Load(seed, records)
	if err != api.OK || s == nil {
		t.Fatalf("Load of %.100x: %d", records, err)
	}
	return s
}

// refuses tells where Load does not refuse bytes.
func refuses(t *testing.T, seed uint64, records []byte, what string) {
	t.Helper()
	if s, err := keep.Load(seed, records); s != nil || err != api.ErrForm {
		t.Errorf("Load of %s: %d, and a store: %t", what, err, s != nil)
	}
}

// TestP6_3Values: each part of a record at its place.
func TestP6_3Values(t *testing.T) {
	for _, x := range []struct {
		lines []string
		value string
	}{
		{[]string{`put a 0 0 0 ""`}, "\x00\x00\x00\x00\x00\x00\x00"},
		{[]string{`put a 1000 0 7 "x"`}, "\x03\xE8\x00\x00\x07\x00\x00x"},
		{[]string{`put a 255 256 1 " "`}, "\x00\xFF\x01\x00\x01\x00\x00 "},
		{[]string{`put a 1 2 3 "hi"`, "hold a m"}, "\x00\x01\x00\x02\x03\x00\x01\x01mhi"},
		{[]string{`put a 1 2 3 "hi"`, "hold a m", "hold a ab", "hold a a", "hold a zzzzzzzz", "drop a"}, "\x00\x01\x00\x02\x03\x01\x04\x01a\x02ab\x01m\x08zzzzzzzzhi"},
	} {
		s := keep.Open(3)
		for _, line := range x.lines {
			s.Do(line)
		}
		want := mapOf(t, 3, "a", x.value)
		if !bytes.Equal(s.Records(), want) {
			t.Errorf("%q: %x, expected %x", x.lines, s.Records(), want)
		}
		if got := load(t, 3, want); !bytes.Equal(got.Image(), s.Image()) || got.Do("get a") != s.Do("get a") {
			t.Errorf("%q: another store when it is loaded", x.lines)
		}
	}
}

// TestP6_4Image: the four images and their lengths, byte for byte.
func TestP6_4Image(t *testing.T) {
	empty := []byte{0, 0, 0, 4, 0, 0, 0, 0, 0, 0, 0, 4, 0, 0, 0, 0, 0, 0, 0, 4, 0, 0, 0, 0, 0, 0, 0, 2, 0, 0}
	if got := keep.Open(5).Image(); !bytes.Equal(got, empty) {
		t.Errorf("of an empty store: %x", got)
	}
	if got := keep.Open(5).Records(); !bytes.Equal(got, make([]byte, 4)) {
		t.Errorf("Records of an empty store: %x", got)
	}
	s := keep.Open(5)
	sayAll(t, s, `put a 3 2 4 "x" -> new`, "hold a me -> ok")
	number := "a\x00\x00\x00\x00\x00\x00\x00"
	parts := [][]byte{
		mapOf(t, 5, "a", "\x00\x03\x00\x02\x04\x00\x01\x02mex"),
		mapOf(t, 5, "x\x00"+number, "\x00\x00", "\x00"+number, "\x00\x01"),
		mapOf(t, 5, "\x00\x00\x00\x0D"+number, "\x00\x03\x00\x02"),
		{0, 1, 3, 235, 3, 234, 3, 232, 4, 0, 1},
	}
	var want []byte
	for _, part := range parts {
		want = append(append(want, 0, 0, 0, byte(len(part))), part...)
	}
	if got := s.Image(); !bytes.Equal(got, want) {
		t.Errorf("%x, expected %x", got, want)
	}
}

// TestP6_4LongImages: lengths of more than one and two bytes.
func TestP6_4LongImages(t *testing.T) {
	p := plain{}
	for i := range 300 {
		text := ""
		for j := range 50 {
			text += fmt.Sprint(100+(i*50+j)%900, " ")
		}
		p[fmt.Sprint(i)] = entry{x: i, y: i, label: i % 8, text: text}
	}
	s := p.store(t, 8)
	p.check(t, 8, s)
	if n := len(s.Image()); n < 1<<16 {
		t.Errorf("%d bytes only", n)
	}
	if !bytes.Equal(load(t, 8, s.Records()).Image(), s.Image()) {
		t.Error("another store when it is loaded")
	}
}

// TestP6_5Values: values that no record has.
func TestP6_5Values(t *testing.T) {
	const head = "\x00\x02\x00\x03\x02"
	nine := ""
	for i := range 9 {
		nine += fmt.Sprint("\x01", i)
	}
	for what, value := range map[string]string{
		"no value":                       "",
		"a head that is cut off":         "\x00\x02\x00\x03\x02\x00",
		"x beyond its bound":             "\x03\xE9\x00\x03\x02\x00\x00",
		"the greatest x":                 "\xFF\xFF\x00\x03\x02\x00\x00",
		"y beyond its bound":             "\x00\x02\x03\xE9\x02\x00\x00",
		"the greatest y":                 "\x00\x02\xFF\xFF\x02\x00\x00",
		"a label beyond its bound":       "\x00\x02\x00\x03\x08\x00\x00",
		"the greatest label":             "\x00\x02\x00\x03\xFF\x00\x00",
		"a due record without holders":   head + "\x01\x00",
		"a due record, due twice":        head + "\x02\x01\x02me",
		"a mark beyond its bound":        head + "\x02\x00",
		"the greatest mark":              head + "\xFF\x01\x02me",
		"holders in another order":       head + "\x00\x02\x02me\x02by",
		"a beginning behind its end":     head + "\x00\x02\x02aa\x01a",
		"a holder twice":                 head + "\x00\x02\x02me\x02me",
		"nine holders":                   head + "\x00\x09" + nine,
		"a holder without a name":        head + "\x00\x01\x00",
		"a holder without a name, first": head + "\x00\x02\x00\x01a",
		"a holder with a long name":      head + "\x00\x01\x09abcdefghi",
		"a holder with a great letter":   head + "\x00\x01\x02mE",
		"a holder with a mark":           head + "\x00\x01\x02m-",
		"a holder with a byte 0":         head + "\x00\x01\x02m\x00",
		"a holder that is cut off":       head + "\x00\x01\x03me",
		"a holder of which is nothing":   head + "\x00\x01",
		"a second holder of that kind":   head + "\x00\x02\x02me",
		"a length beyond the end":        head + "\x00\x01\xFFme",
		"255 holders":                    head + "\x00\xFF\x02me",
		"a quotation mark":               head + "\x00\x00\"",
		"a backslash":                    head + "\x00\x00a\\b",
		"a byte 31":                      head + "\x00\x00\x1F",
		"a byte 127":                     head + "\x00\x00\x7F",
		"a byte 0 behind the text":       head + "\x00\x00a\x00",
		"a newline":                      head + "\x00\x00a\n",
		"a letter beyond ASCII":          head + "\x00\x00\u00e9",
		"a byte 255":                     head + "\x00\x00\xFF",
		"a text of 201 bytes":            head + "\x00\x00" + strings.Repeat("x", 201),
		"a text of 900 bytes":            head + "\x00\x00" + strings.Repeat("x", 900),
		"a text of 201 bytes, held":      head + "\x00\x01\x02me" + strings.Repeat("x", 201),
	} {
		refuses(t, 8, mapOf(t, 8, "a", value), what)
		refuses(t, 8, mapOf(t, 8, "a", value, "b", head+"\x00\x00", "0", head+"\x00\x00"), what+", among others")
	}
}

// TestP6_5Keys: keys that no record has.
func TestP6_5Keys(t *testing.T) {
	const value = "\x00\x02\x00\x03\x02\x00\x00x"
	for _, key := range []string{"A", "aZ", "abcdefghi", "a-", "_", " ", "a ", "a\x00", "\x00", "\xFF", "\u00e9", "\"", "/", ":", "`", "{", strings.Repeat("a", 64)} {
		refuses(t, 8, mapOf(t, 8, key, value), fmt.Sprintf("the key %q", key))
		refuses(t, 8, mapOf(t, 8, "a", value, key, value, "z", value), fmt.Sprintf("the key %q, among others", key))
	}
	for _, key := range []string{"a", "0", "z", "9", "abcdefgh", "zzzzzzzz"} {
		say(t, load(t, 8, mapOf(t, 8, key, value)), "get "+key, `2 3 2 "x"`)
	}
}

// TestP6_5Bytes: bytes that are no image of a map.
func TestP6_5Bytes(t *testing.T) {
	image := held().store(t, 8).Records()
	for size := range image {
		refuses(t, 8, image[:size], fmt.Sprint("the first bytes: ", size))
	}
	refuses(t, 8, nil, "nothing")
	refuses(t, 8, append(slices.Clone(image), 0), "a byte more")
	refuses(t, 8, held().store(t, 8).Image(), "the image of the store")
	refuses(t, 8, bytes.Repeat([]byte{255}, 1000), "bytes 255")
}

// TestP6_5Full: MaxKept records are taken, one more is not.
func TestP6_5Full(t *testing.T) {
	p, s := fullStore(t, 9)
	again := load(t, 9, s.Records())
	p.check(t, 9, again)
	sayAll(t, again, `put new 1 1 1 "x" -> full`, "drop k0 -> gone", `put new 1 1 1 "x" -> new`)
	m := p.pairs(t, 9)
	if err := m.Put([]byte("more"), entry{}.value()); err != api.OK {
		t.Fatal(err)
	}
	refuses(t, 9, m.Image(), "a record more than there may be")
	for i := range 2000 {
		m.Put(fmt.Appendf(nil, "m%d", i), entry{}.value())
	}
	refuses(t, 9, m.Image(), "many records more than there may be")
}

// TestP6_5Goes: what Load returns is a store as any other.
func TestP6_5Goes(t *testing.T) {
	p := held()
	s := load(t, 8, p.pairs(t, 8).Image())
	p.check(t, 8, s)
	p.checkQuestions(t, 8, s)
	sayAll(t, s, `ask "red | c" -> a b`, `put d 1 1 1 "red" -> new`, `ask "red" -> a d`, "free b me -> ok", "free b by -> gone", "drop a -> due", "free a court -> gone", "drop c -> gone", "drop d -> gone")
	plain{}.check(t, 8, s)
	sayAll(t, load(t, 8, make([]byte, 4)), "count -> 0", `put a 1 1 1 "x" -> new`)
}

// TestP6_5OtherSeeds: the shape of a map is mostly another one for another seed; where it is not, the records are a store's with that seed.
func TestP6_5OtherSeeds(t *testing.T) {
	p, _ := fullStore(t, 0)
	image := p.pairs(t, 1).Image()
	for seed := range uint64(20) {
		if seed != 1 {
			refuses(t, seed, image, fmt.Sprint("an image of seed 1, as one of seed ", seed))
		}
	}
	small := plain{"a": {text: "x"}, "b": {x: 1}, "c": {y: 2}}
	taken, refused := 0, 0
	for seed := range uint64(60) {
		image := small.pairs(t, seed+1).Image()
		want := bytes.Equal(image, small.pairs(t, seed).Image())
		s, err := keep.Load(seed, image)
		if want != (err == api.OK) {
			t.Errorf("an image of seed %d, as one of seed %d: %d", seed+1, seed, err)
		}
		if want {
			small.check(t, seed, s)
			taken++
		} else {
			refused++
		}
	}
	if taken == 0 || refused == 0 {
		t.Errorf("%d taken, %d refused", taken, refused)
	}
}

// TestP7SpoiledRecords: Load takes just the bytes that Records of some store returns: what it takes of spoiled bytes are these.
func TestP7SpoiledRecords(t *testing.T) {
	r := rand.New(rand.NewSource(7))
	taken := 0
	for seed := range uint64(30) {
		image := anyPlain(r, 40).store(t, seed).Records()
		for range 300 {
			spoiled := slices.Clone(image)
			for range 1 + r.Intn(2) {
				at := r.Intn(len(spoiled))
				switch r.Intn(4) {
				case 0:
					spoiled = slices.Delete(spoiled, at, at+1)
				case 1:
					spoiled = slices.Insert(spoiled, at, byte(r.Intn(256)))
				case 2:
					spoiled[at] ^= 1 << r.Intn(8)
				case 3:
					spoiled[at] = spoiled[r.Intn(len(spoiled))]
				}
			}
			s, err := keep.Load(seed, spoiled)
			if err != api.OK {
				if s != nil || err != api.ErrForm {
					t.Fatalf("Load: %d, and a store: %t", err, s != nil)
				}
				continue
			}
			taken++
			// Lines alone give the same.
			p := contentOf(t, seed, s)
			p.check(t, seed, s)
			if again := p.store(t, seed); !bytes.Equal(s.Records(), spoiled) || !bytes.Equal(again.Records(), spoiled) {
				t.Fatalf("Load of %x gives a store of %x, and lines one of %x", spoiled, s.Records(), again.Records())
			}
		}
	}
	if taken < 100 {
		t.Errorf("%d taken only", taken)
	}
}

// contentOf returns the content that a store tells of.
func contentOf(t *testing.T, seed uint64, s *keep.Store) plain {
	t.Helper()
	m, err := order.Load(seed, s.Records())
	if err != api.OK {
		t.Fatalf("Records are no map: %d", err)
	}
	p := plain{}
	for key, value := range m.All() {
		var e entry
		answer := s.Do("get " + string(key))
		numbers, rest, _ := strings.Cut(answer, ` "`)
		fmt.Sscan(numbers, &e.x, &e.y, &e.label)
		e.text, rest, _ = strings.Cut(rest, `"`)
		e.due = strings.HasSuffix(rest, " due")
		// The names of the holders are told by the bytes alone.
		var names []string
		for at, n := 7, value[6]; n > 0; n-- {
			end := at + 1 + int(value[at])
			names = append(names, string(value[at+1:end]))
			at = end
		}
		e = e.withHolders(names...)
		if answer != e.told() {
			t.Fatalf("get %s: %q, expected %q", key, answer, e.told())
		}
		p[string(key)] = e
	}
	return p
}

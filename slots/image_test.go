package slots_test

import (
	"bytes"
	"math/rand"
	"slices"
	"strconv"
	"strings"
	"testing"

	"amnesty/api"
	"amnesty/slots"
)

func TestP1_4ImageOfOnePair(t *testing.T) {
	table := plain{"a": "xy"}.tableOf(t, 7)
	at := homeOf(7, "a", 8)
	want := append([]byte{1, 0, 0, 0}, make([]byte, at)...)
	want = append(want, 1, 1, 2, 0, 'a', 'x', 'y')
	want = append(want, make([]byte, 7-at)...)
	if got := table.Image(); !bytes.Equal(got, want) || len(got) != 18 || table.Looks([]byte("a")) != 1 {
		t.Errorf("the image of one pair: %v, expected %v", got, want)
	}
}

func TestP1_4LittleNumbers(t *testing.T) {
	key, value := strings.Repeat("k", 64), strings.Repeat("v", 1000)
	image := plain{key: value}.tableOf(t, 2).Image()
	if !bytes.Contains(image, append([]byte{1, 64, 0xE8, 3}, key+value...)) {
		t.Errorf("the value of 1000 bytes does not stand behind the lengths 64, 232, 3")
	}
	content := plain{}
	for i := range 0x1234 {
		content[strconv.Itoa(i)] = ""
	}
	if image := content.tableOf(t, 2).Image(); !bytes.HasPrefix(image, []byte{0x34, 0x12, 0, 0}) {
		t.Errorf("the number 1234 (hexadecimal) stands as %v", image[:4])
	}
}

func TestP1_6LoadReturnsWhatWasThere(t *testing.T) {
	for _, n := range []int{0, 1, 6, 7, 12, 13, 24, 25, 300} {
		content := plain{}
		for i := range n {
			content["k"+strconv.Itoa(i)] = strings.Repeat("v", i*7%1001)
		}
		image := content.image(5)
		table, e := slots.Load(5, image)
		if e != api.OK {
			t.Fatalf("Load of %d pairs: %d", n, e)
		}
		content.check(t, 5, table, "", "other")
		put(t, table, "new", "pair")
		content["new"] = "pair"
		content.check(t, 5, table)
		drop(t, table, "new")
		delete(content, "new")
		if n > 0 {
			drop(t, table, "k0")
			delete(content, "k0")
		}
		content.check(t, 5, table, "k0")
	}
}

func TestP1_6LoadOfTwins(t *testing.T) {
	content := plain{twinLow: "1", twinHigh: "2"}
	table, e := slots.Load(1, content.image(1))
	if e != api.OK {
		t.Fatalf("Load of two keys of one rank: %d", e)
	}
	content.check(t, 1, table)
	cells := content.lay(1)
	low := slices.IndexFunc(cells, func(c plainCell) bool { return c.key == twinLow })
	high := slices.IndexFunc(cells, func(c plainCell) bool { return c.key == twinHigh })
	cells[low], cells[high] = cells[high], cells[low]
	refused(t, 1, "two keys of one rank in each other's place", content.imageOf(2, cells))
}

// refused checks that some bytes are no image.
func refused(t *testing.T, seed uint64, what string, image []byte) {
	t.Helper()
	given := bytes.Clone(image)
	if table, e := slots.Load(seed, image); table != nil || e != api.ErrForm {
		t.Errorf("Load of %s: %d, expected ErrForm", what, e)
	}
	if !bytes.Equal(image, given) {
		t.Errorf("Load of %s modified the bytes", what)
	}
}

func TestP1_6LoadRefusesLengths(t *testing.T) {
	long := strings.Repeat("k", 65)
	for what, content := range map[string]plain{
		"a key of 65 bytes":                       {long: "v"},
		"a key of 255 bytes":                      {strings.Repeat("k", 255): ""},
		"a key without bytes":                     {"": "v"},
		"a key and a value without bytes":         {"": ""},
		"a value of 1001 bytes":                   {"k": strings.Repeat("v", 1001)},
		"a value of 65535 bytes":                  {"k": strings.Repeat("v", 65535)},
		"an allowed pair and a key of 65 bytes":   {"k": "v", long: ""},
		"an allowed pair and a key without bytes": {"k": "v", "": ""},
	} {
		refused(t, 5, what, content.image(5))
	}
}

func TestP1_6LoadRefusesMarks(t *testing.T) {
	free := make([]byte, 12)
	for _, mark := range []byte{2, 3, 128, 255} {
		for at := 4; at < 12; at++ {
			image := bytes.Clone(free)
			image[at] = mark
			refused(t, 5, "a free cell with the mark "+strconv.Itoa(int(mark)), image)
		}
		image := plain{"a": "xy"}.image(5)
		image[4+homeOf(5, "a", 8)] = mark
		refused(t, 5, "a pair with the mark "+strconv.Itoa(int(mark)), image)
	}
}

func TestP1_6LoadRefusesCounts(t *testing.T) {
	for _, image := range [][]byte{nil, {}, {0}, {0, 0, 0}, {0, 0, 0, 0}, {0xFF, 0xFF, 0xFF, 0xFF}, {0xA0, 0x86, 1, 0}, {0xA1, 0x86, 1, 0}} {
		refused(t, 5, "a count alone", image)
	}
	refused(t, 5, "the greatest count", append([]byte{0xFF, 0xFF, 0xFF, 0xFF}, make([]byte, 1<<20)...))
	refused(t, 5, "a count of 2^31", append([]byte{0, 0, 0, 0x80}, make([]byte, 8)...))
	content := plain{"a": "1", "b": "2", "c": "3"}
	for n := range 20 {
		if n != 3 {
			refused(t, 5, "three pairs with the count "+strconv.Itoa(n), content.imageOf(n, lay(5, content.keys(), plainCount(n))))
		}
	}
	refused(t, 5, "three pairs with a count that is 2^24 too great", content.imageOf(3+1<<24, content.lay(5)))
	full := plain{}
	for i := range 8 {
		full[strconv.Itoa(i)] = ""
	}
	for n := range 7 {
		refused(t, 5, "eight pairs in eight cells", full.imageOf(n, lay(5, full.keys(), 8)))
	}
}

func TestP1_6LoadRefusesOtherNumbersOfCells(t *testing.T) {
	for n, cells := range map[int][]int{0: {1, 4, 16}, 1: {1, 2, 4, 16}, 6: {6, 7, 16, 32}, 7: {7, 8, 32}, 12: {12, 13, 15, 17, 32}, 13: {13, 16, 64}} {
		content := plain{}
		for i := range n {
			content[strconv.Itoa(i)] = "v"
		}
		for _, c := range cells {
			refused(t, 5, strconv.Itoa(n)+" pairs in "+strconv.Itoa(c)+" cells", content.imageOf(n, lay(5, content.keys(), c)))
		}
	}
}

func TestP1_6LoadRefusesWhatIsCutOffOrLeftOver(t *testing.T) {
	for _, content := range []plain{{}, {"a": "xy"}, {"a": "1", "b": "", "c": "333", "d": "4", "e": "5", "f": "6", "g": "7"}} {
		image := content.image(5)
		for n := range image {
			refused(t, 5, strconv.Itoa(n)+" bytes of "+strconv.Itoa(len(image)), image[:n])
			refused(t, 5, "an image without its first "+strconv.Itoa(n+1)+" bytes", image[n+1:])
		}
		for _, more := range [][]byte{{0}, {1}, {1, 1, 0, 0, 'z'}, make([]byte, 8), image} {
			refused(t, 5, "an image with more bytes", slices.Concat(image, more))
		}
	}
}

func TestP1_6LoadRefusesKeysThatAreThereTwice(t *testing.T) {
	content := plain{"a": "1", "b": "2"}
	for _, keys := range [][]string{{"a", "a"}, {"a", "a", "b"}, {"a", "b", "b"}, {"a", "a", "a"}, {"a", "a", "b", "b"}} {
		cells := lay(5, keys, 8)
		refused(t, 5, "a key that is there twice", content.imageOf(len(keys), cells))
		refused(t, 5, "a key that is there twice and counted once", content.imageOf(len(keys)-1, cells))
	}
}

// TestP1_6LoadRefusesOtherCells tries the pairs in each other place, and in each other's.
func TestP1_6LoadRefusesOtherCells(t *testing.T) {
	content := plain{"a": "1", "b": "2", "c": "3", "d": "4", "e": "5", "f": "6"}
	cells := content.lay(5)
	for i := range cells {
		for j := range i {
			if cells[i] == cells[j] {
				continue
			}
			cells[i], cells[j] = cells[j], cells[i]
			refused(t, 5, "pairs in other cells", content.imageOf(6, cells))
			cells[i], cells[j] = cells[j], cells[i]
		}
	}
	for turn := 1; turn < 8; turn++ {
		refused(t, 5, "all pairs further on", content.imageOf(6, append(cells[turn:], cells[:turn]...)))
	}
}

func TestP1_6LoadRefusesOtherSeeds(t *testing.T) {
	content := plain{}
	for i := range 20 {
		content[strconv.Itoa(i)] = "v"
	}
	for seed := range uint64(50) {
		if seed != 5 {
			refused(t, seed, "an image of another seed", content.image(5))
		}
	}
	if table, e := slots.Load(9, make([]byte, 12)); e != api.OK || table.Len() != 0 {
		t.Errorf("Load of the image of no pairs: %d", e)
	}
}

// TestP7Images: bytes that Load takes are the image of what it returns. Each byte of an image is changed to each other one, and images are cut and joined.
func TestP7Images(t *testing.T) {
	const seed = 5
	taken := 0
	try := func(b []byte) {
		t.Helper()
		table, e := slots.Load(seed, b)
		switch {
		case e == api.OK && !bytes.Equal(table.Image(), b):
			t.Fatalf("Load takes %v, which is no image", b)
		case e != api.OK && (e != api.ErrForm || table != nil):
			t.Fatalf("Load of %v: %d", b, e)
		case e == api.OK:
			taken++
			content := plain{}
			for _, c := range table.Cells() {
				if c.Full {
					content[string(c.Key)] = string(c.Value)
				}
			}
			content.check(t, seed, table)
		}
	}
	images := [][]byte{plain{}.image(seed), plain{"a": "xy"}.image(seed), plain{"a": "1", "b": "", "c": "333", "d": "4", "e": "5", "f": "6"}.image(seed)}
	for _, image := range images {
		for i := range image {
			for c := range 256 {
				changed := bytes.Clone(image)
				changed[i] = byte(c)
				try(changed)
			}
		}
	}
	r := rand.New(rand.NewSource(7))
	for range 20000 {
		a, b := images[r.Intn(3)], images[r.Intn(3)]
		try(slices.Concat(a[:r.Intn(len(a)+1)], b[r.Intn(len(b)+1):]))
	}
	if taken < 1000 {
		t.Errorf("%d of the bytes are images: the test shows little", taken)
	}
}

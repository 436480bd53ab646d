package order_test

import (
	"bytes"
	"math/rand"
	"slices"
	"strconv"
	"strings"
	"testing"

	"amnesty/api"
	"amnesty/order"
)

func TestP2_4New(t *testing.T) {
	for _, seed := range []uint64{0, 1, 1<<64 - 1} {
		m := order.New(seed)
		plain{}.check(t, seed, m, "", "a", strings.Repeat("b", 1000))
		if len(m.Prove([]byte("a"))) != 0 || string(m.Image()) != "\x00\x00\x00\x00" {
			t.Errorf("a new map is not empty")
		}
	}
	one, other := order.New(1), order.New(1)
	put(t, one, "a", "b")
	if other.Len() != 0 {
		t.Errorf("two new maps are one")
	}
}

func TestP2_4LoadReturnsWhatWasThere(t *testing.T) {
	for _, n := range []int{0, 1, 2, 3, 10, 100} {
		content := plain{}
		for i := range n {
			content["k"+strconv.Itoa(i)] = strings.Repeat("v", i*37%1001)
		}
		m, e := order.Load(5, content.image(5))
		if e != api.OK {
			t.Fatalf("Load of %d pairs: %d", n, e)
		}
		content.check(t, 5, m, "", "other")
		put(t, m, "new", "pair")
		content["new"] = "pair"
		if n > 0 {
			drop(t, m, "k0")
			delete(content, "k0")
		}
		content.check(t, 5, m, "k0")
	}
}

// refused checks that some bytes are no image.
func refused(t *testing.T, seed uint64, what string, image []byte) {
	t.Helper()
	given := bytes.Clone(image)
	if m, e := order.Load(seed, image); m != nil || e != api.ErrForm {
		t.Errorf("Load of %s: %d, expected ErrForm", what, e)
	}
	if !bytes.Equal(image, given) {
		t.Errorf("Load of %s modified the bytes", what)
	}
}

func TestP2_4LoadRefusesLengths(t *testing.T) {
	long := strings.Repeat("k", 65)
	for what, content := range map[string]plain{
		"a key of 65 bytes":                       {long: "v"},
		"a key of 255 bytes":                      {strings.Repeat("k", 255): ""},
		"a key without bytes":                     {"": "v"},
		"a key and a value without bytes":         {"": ""},
		"a value of 1001 bytes":                   {"k": strings.Repeat("v", 1001)},
		"a value of 65535 bytes":                  {"k": strings.Repeat("v", 65535)},
		"an allowed pair and a key of 65 bytes":   {"a": "v", long: ""},
		"an allowed pair and a key without bytes": {"a": "v", "": ""},
		"an allowed pair and a long value":        {"a": "v", "b": strings.Repeat("v", 1001)},
	} {
		for seed := range uint64(8) {
			refused(t, seed, what, content.image(seed))
		}
	}
}

func TestP2_4LoadRefusesChildren(t *testing.T) {
	content := plain{"a": "1", "c": "2", "e": "3"}
	image := content.image(5)
	at := 4
	for range content {
		for c := range 256 {
			if changed := bytes.Clone(image); byte(c) != image[at] {
				changed[at] = byte(c)
				refused(t, 5, "an image with the children "+strconv.Itoa(c)+" at "+strconv.Itoa(at), changed)
			}
		}
		at += 4 + 2
	}
	for c := range 256 {
		if c > 0 {
			refused(t, 5, "one pair with children", []byte{1, 0, 0, 0, byte(c), 1, 1, 0, 'b', '1'})
		}
	}
}

func TestP2_4LoadRefusesCounts(t *testing.T) {
	for _, image := range [][]byte{nil, {}, {0}, {0, 0, 0}, {1, 0, 0, 0}, {0xFF, 0xFF, 0xFF, 0xFF}, {0, 0, 0, 0x80}, {0xA0, 0x86, 1, 0}, {0xA1, 0x86, 1, 0}} {
		refused(t, 5, "a count alone", image)
	}
	content := plain{"a": "1", "b": "2", "c": "3"}
	for _, n := range []int{0, 1, 2, 4, 5, 3 + 1<<8, 3 + 1<<16, 3 + 1<<24, 1<<32 - 1} {
		refused(t, 5, "three pairs with the count "+strconv.Itoa(n), imageOf(n, content.nodes(5)))
	}
	refused(t, 5, "no pairs with more bytes", make([]byte, 9))
}

func TestP2_4LoadRefusesWhatIsCutOffOrLeftOver(t *testing.T) {
	for _, content := range []plain{{}, {"a": "xy"}, {"a": "1", "b": "", "c": "333", "d": "4", "e": "5", "f": "6", "g": "7"}} {
		image := content.image(5)
		for n := range image {
			refused(t, 5, strconv.Itoa(n)+" bytes of "+strconv.Itoa(len(image)), image[:n])
			refused(t, 5, "an image without its first "+strconv.Itoa(n+1)+" bytes", image[n+1:])
		}
		for _, more := range [][]byte{{0}, {1}, {0, 1, 0, 0, 'z'}, make([]byte, 8), image, image[4:]} {
			if len(more) > 0 {
				refused(t, 5, "an image with more bytes", slices.Concat(image, more))
			}
		}
	}
}

// shapes returns all binary trees of nodes with the given keys, in this order; each as the list of its nodes.
func shapes(keys []string, from int) [][]api.Node {
	var list [][]api.Node
	for top := range keys {
		for _, left := range orNone(shapes(keys[:top], from+1)) {
			for _, right := range orNone(shapes(keys[top+1:], from+1+len(left))) {
				n := api.Node{Key: []byte(keys[top]), Left: -1, Right: -1}
				if len(left) > 0 {
					n.Left = from + 1
				}
				if len(right) > 0 {
					n.Right = from + 1 + len(left)
				}
				list = append(list, slices.Concat([]api.Node{n}, left, right))
			}
		}
	}
	return list
}

func orNone(list [][]api.Node) [][]api.Node {
	if len(list) == 0 {
		return [][]api.Node{nil}
	}
	return list
}

// loadedOnly tries all trees of some keys, and checks that Load takes those that are images of a content, and how many these are.
func loadedOnly(t *testing.T, seed uint64, keys []string, wanted int) {
	t.Helper()
	content := plain{}
	for _, k := range keys {
		content[k] = ""
	}
	want := content.image(seed)
	taken := 0
	for _, nodes := range shapes(keys, 0) {
		image := imageOf(len(keys), nodes)
		if bytes.Equal(image, want) {
			taken++
			if m, e := order.Load(seed, image); e != api.OK || !bytes.Equal(m.Image(), image) {
				t.Errorf("Load of the image of %q: %d", keys, e)
			}
			continue
		}
		refused(t, seed, strings.Join(keys, " ")+" in another shape", image)
	}
	if taken != wanted {
		t.Errorf("%d trees of %q are images, expected %d", taken, keys, wanted)
	}
}

// TestP2_4LoadRefusesOtherShapes tries all binary trees of a few keys, in each order, and also with keys that are there twice.
func TestP2_4LoadRefusesOtherShapes(t *testing.T) {
	letters := []string{"a", "b", "c", "d"}
	for seed := range uint64(12) {
		for i := range 256 {
			keys := []string{letters[i&3], letters[i>>2&3], letters[i>>4&3], letters[i>>6&3]}
			wanted := 0
			if slices.Equal(keys, letters) {
				wanted = 1
			}
			loadedOnly(t, seed, keys, wanted)
		}
		loadedOnly(t, seed, []string{"a", "b", "c", "d", "e", "f", "g"}, 1)
	}
}

func TestP2_4LoadOfEqualHeights(t *testing.T) {
	for _, x := range [][2]string{{twinLow, twinHigh}, {otherLow, otherHigh}} {
		loadedOnly(t, twinSeed, []string{x[0], x[1]}, 1)
		loadedOnly(t, twinSeed, []string{x[1], x[0]}, 0)
		loadedOnly(t, twinSeed, []string{x[0], x[0]}, 0)
		loadedOnly(t, twinSeed, []string{x[0], x[0] + "x", x[1]}, 1)
	}
	loadedOnly(t, twinSeed, []string{twinLow, twinHigh, otherLow, otherHigh}, 1)
}

func TestP2_4LoadRefusesOtherSeeds(t *testing.T) {
	content := plain{}
	for i := range 20 {
		content[strconv.Itoa(i)] = "v"
	}
	image := content.image(5)
	for seed := range uint64(50) {
		if seed != 5 {
			refused(t, seed, "an image of another seed", image)
		}
	}
	if m, e := order.Load(9, make([]byte, 4)); e != api.OK || m.Len() != 0 {
		t.Errorf("Load of the image of no pairs: %d", e)
	}
}

// TestP7Images: bytes that Load takes are the image of what it returns. Each byte of an image is changed to each other one, and images are cut and joined.
func TestP7Images(t *testing.T) {
	const seed = 5
	taken := 0
	try := func(b []byte) {
		t.Helper()
		m, e := order.Load(seed, b)
		switch {
		case e == api.OK && !bytes.Equal(m.Image(), b):
			t.Fatalf("Load takes %v, which is no image", b)
		case e != api.OK && (e != api.ErrForm || m != nil):
			t.Fatalf("Load of %v: %d", b, e)
		case e == api.OK:
			taken++
			content := plain{}
			for k, v := range m.All() {
				content[string(k)] = string(v)
			}
			content.checkShape(t, seed, m)
		}
	}
	images := [][]byte{plain{}.image(seed), plain{"a": "xy"}.image(seed), plain{"a": "1", "b": "", "c": "333", "d": "4", "e": "5", "f": "6"}.image(seed)}
	for _, image := range images {
		for i := range image {
			for c := range 256 {
				changed := bytes.Clone(image)
				changed[i] = byte(c)
				try(changed)
			}
		}
	}
	r := rand.New(rand.NewSource(7))
	for range 20000 {
		a, b := images[r.Intn(3)], images[r.Intn(3)]
		try(slices.Concat(a[:r.Intn(len(a)+1)], b[r.Intn(len(b)+1):]))
	}
	if taken < 1000 {
		t.Errorf("%d of the bytes are images: the test shows little", taken)
	}
}

// full returns the content of a full map.
func full() plain {
	content := plain{}
	for i := range api.MaxPairs {
		content[strconv.Itoa(i)] = ""
	}
	return content
}

// TestP2_5Full fills a map, and loads it.
func TestP2_5Full(t *testing.T) {
	const seed = 77
	content := full()
	m := content.mapOf(t, seed)
	image := content.image(seed)
	if e := m.Put([]byte("new"), nil); e != api.ErrFull {
		t.Errorf("Put of a new key into a full map: %d, expected ErrFull", e)
	}
	if e := m.Put(nil, nil); e != api.ErrArg {
		t.Errorf("Put of a key that is not allowed into a full map: %d, expected ErrArg", e)
	}
	if _, e := m.Get([]byte("new")); e != api.ErrNone || !bytes.Equal(m.Image(), image) {
		t.Errorf("a full map has another image than its content")
	}
	put(t, m, "5", "changed")
	drop(t, m, "6")
	put(t, m, "new", "v")
	if e := m.Put([]byte("6"), nil); e != api.ErrFull {
		t.Errorf("Put into a map that is full again: %d, expected ErrFull", e)
	}
	content["5"], content["new"] = "changed", "v"
	delete(content, "6")
	image = content.image(seed)
	if !bytes.Equal(m.Image(), image) {
		t.Errorf("a full map that was changed has another image than its content")
	}
	if loaded, e := order.Load(seed, image); e != api.OK || loaded.Len() != api.MaxPairs {
		t.Errorf("Load of a full map: %d", e)
	}
	content["one more"] = ""
	refused(t, seed, "MaxPairs + 1 pairs", content.image(seed))
}

package order_test

import (
	"bytes"
	"encoding/hex"
	"math"
	"math/rand"
	"slices"
	"strconv"
	"strings"
	"testing"

	"amnesty/api"
	"amnesty/order"
)

// Keys of which each two of a row have one height with the seed twinSeed. They were found apart from this program.
const (
	twinSeed            = 0x61C8864680B583EC
	twinLow, twinHigh   = "A*Lf68*yl,Cy-NNA2a", "IpKZK.7v7a=f8CCE,Q"
	otherLow, otherHigh = "sW.z+5czVOp=inR0dV", "ui18jko36s/n*-Hm,j"
)

// emptySeed is the seed with which the map of the pair of "b" and "1" has the digest 0, like a map of no pairs.
const emptySeed = 0x500A86E9EB1233EB

// TestP2_1Shapes lets a map grow and shrink, and holds it against its content after each call.
func TestP2_1Shapes(t *testing.T) {
	for seed := range uint64(24) {
		r := rand.New(rand.NewSource(int64(seed)))
		most := []int{2, 5, 12, 40}[seed%4]
		m, content := order.New(seed), plain{}
		for range 60 {
			key, value := "k"+strconv.Itoa(r.Intn(2*most)), strings.Repeat("v", r.Intn(4))
			_, there := content[key]
			if there && r.Intn(3) > 0 {
				drop(t, m, key)
				delete(content, key)
			} else if there || len(content) < most {
				put(t, m, key, value)
				content[key] = value
			}
			content.check(t, seed, m, "", "k", "k1", "k20", "other")
		}
	}
}

// TestP2_1LargeShapes: a map that grows to some thousand pairs, and loses most of them.
func TestP2_1LargeShapes(t *testing.T) {
	const n, seed = 5000, math.MaxUint64
	m, content := order.New(seed), plain{}
	for i := range n {
		key := strconv.Itoa(i * 7)
		put(t, m, key, "x")
		content[key] = "x"
	}
	content.checkShape(t, seed, m)
	content.checkPlaces(t, m)
	for i := range n {
		if i%10 != 3 {
			key := strconv.Itoa(i * 7)
			drop(t, m, key)
			delete(content, key)
		}
	}
	content.checkShape(t, seed, m)
	content.checkList(t, m)
}

// TestP2_1EqualHeights: of two keys of one height the lesser one stands above, in whatever order they come.
func TestP2_1EqualHeights(t *testing.T) {
	for _, x := range [][2]string{{twinLow, twinHigh}, {otherLow, otherHigh}} {
		low, high := x[0], x[1]
		if low >= high || heightOf(twinSeed, low) != heightOf(twinSeed, high) {
			t.Fatalf("%q and %q are no twins", low, high)
		}
		for _, keys := range [][]string{{low, high}, {high, low}} {
			m := order.New(twinSeed)
			for _, k := range keys {
				put(t, m, k, "v")
			}
			plain{low: "v", high: "v"}.check(t, twinSeed, m, "between")
			if n := m.Nodes(); string(n[0].Key) != low || n[0].Right != 1 {
				t.Errorf("of two keys of one height, the lesser one does not stand above")
			}
			drop(t, m, low)
			plain{high: "v"}.check(t, twinSeed, m, low)
			put(t, m, low, "w")
			drop(t, m, high)
			plain{low: "w"}.check(t, twinSeed, m, high)
		}
	}
}

// TestP2_1EqualHeightsAmongOthers: twins in a map that grows, is cut between them, and is joined again.
func TestP2_1EqualHeightsAmongOthers(t *testing.T) {
	content := plain{twinLow: "1", twinHigh: "2", otherLow: "3", otherHigh: "4"}
	m := content.mapOf(t, twinSeed)
	for i := range 20 {
		key := string(rune('A' + i*3))
		put(t, m, key, "v")
		content[key] = "v"
		content.checkShape(t, twinSeed, m)
	}
	for _, at := range []string{twinLow, twinHigh, otherLow, otherHigh, "B", "t", "tw"} {
		less, rest := m.Cut([]byte(at))
		content.span("", at, true).check(t, twinSeed, less)
		content.span(at, "", false).check(t, twinSeed, rest)
		var e api.Errno
		if m, e = order.Join(less, rest); e != api.OK {
			t.Fatalf("Join: %d", e)
		}
		content.checkShape(t, twinSeed, m)
	}
	for _, key := range []string{otherLow, twinHigh} {
		drop(t, m, key)
		delete(content, key)
		content.check(t, twinSeed, m, otherLow, twinHigh)
	}
}

// wanted are digests and images that were worked out apart from this program.
var wanted = []struct {
	seed   uint64
	pairs  []string
	digest uint64
	image  string
}{
	{9, nil, 0, "00000000"},
	{77, []string{"b", "1"}, 0x8EC600A5BC066CEE, "01000000000101006231"},
	{0, []string{"b", ""}, 0x5325D0D549A1C40D, "010000000001000062"},
	{7, []string{"a", "1", "c", "2", "e", "3"}, 0x639489C720C4B31B, "03000000020101006131010101006533000101006332"},
	{emptySeed, []string{"b", "1"}, 0, "01000000000101006231"},
}

// mapOfPairs returns the map of a list of keys, each followed by its value.
func mapOfPairs(t *testing.T, seed uint64, pairs []string) *order.Map {
	t.Helper()
	m := order.New(seed)
	for i := 0; i < len(pairs); i += 2 {
		put(t, m, pairs[i], pairs[i+1])
	}
	return m
}

func TestP2_2Digests(t *testing.T) {
	for _, x := range wanted {
		m := mapOfPairs(t, x.seed, x.pairs)
		if d := m.Digest(); d != x.digest {
			t.Errorf("seed %d, %q: the digest is %#x, expected %#x", x.seed, x.pairs, d, x.digest)
		}
	}
	m := order.New(math.MaxUint64)
	put(t, m, strings.Repeat("k", 64), strings.Repeat("v", 1000))
	if d := m.Digest(); d != 0x519F386231936AA2 {
		t.Errorf("the longest pair: the digest is %#x", d)
	}
	m = order.New(1)
	for i := byte(1); i <= 10; i++ {
		put(t, m, string([]byte{i}), strings.Repeat(string([]byte{i}), int(i)))
	}
	if d := m.Digest(); d != 0xF1B987FD8B73A70B {
		t.Errorf("ten pairs: the digest is %#x", d)
	}
}

// TestP2_2DigestZero: a node with the digest 0 is one all the same.
func TestP2_2DigestZero(t *testing.T) {
	for _, content := range []plain{{"b": "1"}, {"a": "", "b": "1"}, {"b": "1", "c": ""}, {"a": "", "b": "1", "c": ""}} {
		m := content.mapOf(t, emptySeed)
		n := m.Nodes()
		i := slices.IndexFunc(n, func(x api.Node) bool { return string(x.Key) == "b" })
		if n[i].Digest != 0 || n[i].Size != 1 {
			t.Fatalf("the node of b has the digest %#x and the size %d: the test shows nothing", n[i].Digest, n[i].Size)
		}
		content.check(t, emptySeed, m, "0", "aa", "bb", "d")
		if loaded, e := order.Load(emptySeed, m.Image()); e != api.OK || loaded.Len() != len(content) {
			t.Errorf("Load of %d pairs with a node of the digest 0: %d", len(content), e)
		}
		if n, d := m.SpanDigest([]byte("b"), []byte("c"), true); n != 1 || d != 0 {
			t.Errorf("SpanDigest of b alone: %d, %#x", n, d)
		}
	}
}

func TestP2_3Images(t *testing.T) {
	for _, x := range wanted {
		m := mapOfPairs(t, x.seed, x.pairs)
		if b := hex.EncodeToString(m.Image()); b != x.image {
			t.Errorf("seed %d, %q: the image is %s, expected %s", x.seed, x.pairs, b, x.image)
		}
	}
}

func TestP2_3LittleNumbers(t *testing.T) {
	key, value := strings.Repeat("k", 64), strings.Repeat("v", 1000)
	m := order.New(2)
	put(t, m, key, value)
	if want := append([]byte{1, 0, 0, 0, 0, 64, 0xE8, 3}, key+value...); !bytes.Equal(m.Image(), want) {
		t.Errorf("the image of the longest pair: %v", m.Image())
	}
	m = order.New(2)
	for i := range 0x1234 {
		put(t, m, strconv.Itoa(i), "")
	}
	if image := m.Image(); !bytes.HasPrefix(image, []byte{0x34, 0x12, 0, 0}) {
		t.Errorf("the number 1234 (hexadecimal) stands as %v", image[:4])
	}
}

// TestP2_9Nodes: the example of the document. Other shapes are held against their nodes by check.
func TestP2_9Nodes(t *testing.T) {
	const seed = 3
	m := plain{"a": "1", "c": "2", "e": "3"}.mapOf(t, seed)
	n := m.Nodes()
	if len(n) != 3 || string(n[0].Key) != "c" || n[0].Left != 1 || n[0].Right != 2 || n[0].Size != 3 {
		t.Fatalf("the nodes of a, c and e: %v", n)
	}
	for i, key := range []string{"a", "e"} {
		if x := n[i+1]; string(x.Key) != key || x.Left != -1 || x.Right != -1 || x.Size != 1 {
			t.Errorf("the node of %s: %v", key, x)
		}
	}
	if n[0].Digest != m.Digest() || n[1].Digest != digestOf(seed, 0, "a", "1", 0) {
		t.Errorf("the digests of the nodes: %#x, %#x", n[0].Digest, n[1].Digest)
	}
	if len(order.New(seed).Nodes()) != 0 {
		t.Errorf("an empty map has nodes")
	}
}

// TestP2_1DeepShapes: keys whose heights rise or fall with them make a map that is as deep as it is long.
func TestP2_1DeepShapes(t *testing.T) {
	const n, seed = 1500, 11
	const slice = math.MaxUint64 / n
	for _, rising := range []bool{true, false} {
		content := plain{}
		for i := range uint64(n) {
			wanted := i
			if !rising {
				wanted = n - 1 - i
			}
			for try := 0; ; try++ {
				key := string([]byte{byte(i >> 8), byte(i)}) + strconv.Itoa(try)
				if heightOf(seed, key)/slice == wanted {
					content[key] = "v"
					break
				}
			}
		}
		keys := content.keys()
		m := content.mapOf(t, seed)
		if s := m.Nodes(); s[n-1].Size != 1 || s[n-2].Size != 2 || s[1].Size != n-1 {
			t.Fatalf("the map is not deep")
		}
		content.checkShape(t, seed, m)
		content.checkList(t, m)
		for _, k := range []string{keys[0], keys[n/2], keys[n-1], "\x00", "\xFF", keys[n/3] + "x"} {
			content.checkKey(t, seed, m, k)
			content.checkSpan(t, seed, m, k, keys[n-9], true)
		}
		if loaded, e := order.Load(seed, m.Image()); e != api.OK || loaded.Digest() != m.Digest() {
			t.Errorf("Load of a deep map: %d", e)
		}
		less, rest := m.Cut([]byte(keys[n/2]))
		content.span("", keys[n/2], true).checkShape(t, seed, less)
		if m, e := order.Join(less, rest); e != api.OK || m.Digest() != content.digest(seed) {
			t.Errorf("Join of deep maps: %d", e)
		}
	}
}

// TestT1OneShape: whatever came in whatever order, and went again, one content has one shape (T1), and what went left nothing.
func TestT1OneShape(t *testing.T) {
	for seed := range uint64(30) {
		r := rand.New(rand.NewSource(int64(seed)))
		content := plain{}
		for i := range r.Intn(40) {
			content["k"+strconv.Itoa(i)] = strconv.Itoa(r.Intn(1000))
		}
		for range 4 {
			m := order.New(seed)
			keys := content.keys()
			for _, i := range r.Perm(len(keys)) {
				put(t, m, "gone"+strconv.Itoa(i%7), "anything")
				put(t, m, keys[i], "another value")
				m = cutAndJoined(t, m, keys[r.Intn(len(keys))])
			}
			for _, i := range r.Perm(len(keys)) {
				put(t, m, keys[i], content[keys[i]])
			}
			for i := range min(7, len(keys)) {
				drop(t, m, "gone"+strconv.Itoa(i))
			}
			content.check(t, seed, m, "gone1")
			if loaded, e := order.Load(seed, content.image(seed)); e == api.OK {
				content.check(t, seed, loaded, "gone1")
			} else {
				t.Fatalf("Load: %d", e)
			}
		}
	}
}

// cutAndJoined cuts a map and joins the parts again.
func cutAndJoined(t *testing.T, m *order.Map, at string) *order.Map {
	t.Helper()
	less, rest := m.Cut([]byte(at))
	joined, e := order.Join(less, rest)
	if e != api.OK {
		t.Fatalf("Join of what was cut at %q: %d", at, e)
	}
	return joined
}

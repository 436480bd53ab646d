package order_test

import (
	"bytes"
	"slices"
	"testing"

	"amnesty/api"
	"amnesty/order"
	"amnesty/slots"
)

// plain is the content of a map. What a map of it shows is worked out from the content alone, as P2.1 to P2.3 say it.
type plain map[string]string

func heightOf(seed uint64, key string) uint64 { return slots.Coin(seed, 3, []byte(key)) }

func little(n uint64, size int) string {
	var b []byte
	for i := range size {
		b = append(b, byte(n>>(8*i)))
	}
	return string(b)
}

// digestOf is the digest of a node (P2.2).
func digestOf(seed, left uint64, key, value string, right uint64) uint64 {
	b := little(left, 8) + little(uint64(len(key)), 1) + key + little(uint64(len(value)), 2) + value + little(right, 8)
	return slots.Coin(seed, 4, []byte(b))
}

func (p plain) keys() []string {
	var keys []string
	for k := range p {
		keys = append(keys, k)
	}
	slices.Sort(keys)
	return keys
}

// of returns the content of the pairs for which a condition holds.
func (p plain) of(holds func(key string) bool) plain {
	part := plain{}
	for k, v := range p {
		if holds(k) {
			part[k] = v
		}
	}
	return part
}

// span returns the content of a span.
func (p plain) span(low, high string, bounded bool) plain {
	return p.of(func(k string) bool { return k >= low && (!bounded || k < high) })
}

func (p plain) nodes(seed uint64) []api.Node { return p.grow(seed, p.keys(), nil) }

// grow appends the nodes of some keys, which stand in order.
func (p plain) grow(seed uint64, keys []string, list []api.Node) []api.Node {
	if len(keys) == 0 {
		return list
	}
	top, height := 0, heightOf(seed, keys[0])
	for i, k := range keys {
		if h := heightOf(seed, k); h > height {
			top, height = i, h
		}
	}
	at, left, right := len(list), uint64(0), uint64(0)
	key, value := keys[top], p[keys[top]]
	list = append(list, api.Node{Key: []byte(key), Value: []byte(value), Size: len(keys), Left: -1, Right: -1})
	if top > 0 {
		list[at].Left = len(list)
		list = p.grow(seed, keys[:top], list)
		left = list[list[at].Left].Digest
	}
	if top < len(keys)-1 {
		list[at].Right = len(list)
		list = p.grow(seed, keys[top+1:], list)
		right = list[list[at].Right].Digest
	}
	list[at].Digest = digestOf(seed, left, key, value, right)
	return list
}

func (p plain) digest(seed uint64) uint64 {
	if len(p) == 0 {
		return 0
	}
	return p.nodes(seed)[0].Digest
}

// imageOf writes nodes in the form of an image, whatever they are.
func imageOf(n int, nodes []api.Node) []byte {
	out := []byte(little(uint64(n), 4))
	for _, x := range nodes {
		children := byte(0)
		if x.Left >= 0 {
			children++
		}
		if x.Right >= 0 {
			children += 2
		}
		out = append(out, children, byte(len(x.Key)), byte(len(x.Value)%256), byte(len(x.Value)/256))
		out = append(append(out, x.Key...), x.Value...)
	}
	return out
}

func (p plain) image(seed uint64) []byte { return imageOf(len(p), p.nodes(seed)) }

// proof is the proof of a key: the nodes on the way to it.
func (p plain) proof(seed uint64, key string) []api.Side {
	nodes := p.nodes(seed)
	digest := func(i int) uint64 {
		if i < 0 {
			return 0
		}
		return nodes[i].Digest
	}
	var steps []api.Side
	at := -1
	if len(nodes) > 0 {
		at = 0
	}
	for at >= 0 {
		n := nodes[at]
		steps = append(steps, api.Side{Key: n.Key, Value: n.Value, Left: digest(n.Left), Right: digest(n.Right)})
		switch {
		case key == string(n.Key):
			at = -1
		case key < string(n.Key):
			at = n.Left
		default:
			at = n.Right
		}
	}
	return steps
}

// mapOf returns a map into which a content was put.
func (p plain) mapOf(t *testing.T, seed uint64) *order.Map {
	t.Helper()
	m := order.New(seed)
	for _, k := range p.keys() {
		put(t, m, k, p[k])
	}
	return m
}

func put(t *testing.T, m *order.Map, key, value string) {
	t.Helper()
	if e := m.Put([]byte(key), []byte(value)); e != api.OK {
		t.Fatalf("Put(%q, %d bytes): %d", key, len(value), e)
	}
}

func drop(t *testing.T, m *order.Map, key string) {
	t.Helper()
	if e := m.Drop([]byte(key)); e != api.OK {
		t.Fatalf("Drop(%q): %d", key, e)
	}
}

// check holds what a map tells against its content, with more keys to ask for.
func (p plain) check(t *testing.T, seed uint64, m *order.Map, others ...string) {
	t.Helper()
	p.checkShape(t, seed, m)
	p.checkList(t, m)
	p.checkPlaces(t, m)
	asked := slices.Concat(others, p.keys())
	for _, k := range asked {
		p.checkKey(t, seed, m, k)
	}
	// All spans of few keys, some of many.
	step := max(1, len(asked)/8)
	for i := 0; i < len(asked); i += step {
		p.checkSpan(t, seed, m, asked[i], "", false)
		for j := 0; j < len(asked); j += step {
			p.checkSpan(t, seed, m, asked[i], asked[j], true)
		}
	}
}

func (p plain) checkShape(t *testing.T, seed uint64, m *order.Map) {
	t.Helper()
	want := p.nodes(seed)
	got := m.Nodes()
	if m.Len() != len(p) || len(got) != len(want) {
		t.Fatalf("Len: %d, %d nodes, expected %d", m.Len(), len(got), len(p))
	}
	for i, n := range got {
		w := want[i]
		if !bytes.Equal(n.Key, w.Key) || !bytes.Equal(n.Value, w.Value) || n.Size != w.Size || n.Left != w.Left || n.Right != w.Right || n.Digest != w.Digest {
			t.Fatalf("node %d of %d pairs with seed %d: %v, expected %v", i, len(p), seed, n, w)
		}
	}
	if got, want := m.Image(), imageOf(len(p), want); !bytes.Equal(got, want) {
		t.Fatalf("%d pairs with seed %d: the image is\n%v, expected\n%v", len(p), seed, got, want)
	}
	if got, want := m.Digest(), p.digest(seed); got != want {
		t.Fatalf("%d pairs with seed %d: the digest is %#x, expected %#x", len(p), seed, got, want)
	}
}

// checkList: All.
func (p plain) checkList(t *testing.T, m *order.Map) {
	t.Helper()
	var got []string
	for k, v := range m.All() {
		if string(v) != p[string(k)] {
			t.Fatalf("All: %q has the value %q, expected %q", k, v, p[string(k)])
		}
		got = append(got, string(k))
	}
	if !slices.Equal(got, p.keys()) {
		t.Fatalf("All: %q, expected %q", got, p.keys())
	}
}

// checkPlaces: At.
func (p plain) checkPlaces(t *testing.T, m *order.Map) {
	t.Helper()
	for i, k := range p.keys() {
		if x, e := m.At(i); string(x.Key) != k || string(x.Value) != p[k] || e != api.OK {
			t.Fatalf("At(%d): %q, %q, %d, expected %q, %q", i, x.Key, x.Value, e, k, p[k])
		}
	}
	for _, i := range []int{-1 << 63, -2, -1, len(p), len(p) + 1, 1<<63 - 1} {
		if x, e := m.At(i); x.Key != nil || x.Value != nil || e != api.ErrNone {
			t.Fatalf("At(%d) of %d pairs: %v, %d, expected ErrNone", i, len(p), x, e)
		}
	}
}

// checkKey: Get, Rank, Prove and Check.
func (p plain) checkKey(t *testing.T, seed uint64, m *order.Map, key string) {
	t.Helper()
	want, there := p[key]
	wantError := api.OK
	if !there {
		wantError = api.ErrNone
	}
	if v, e := m.Get([]byte(key)); string(v) != want || e != wantError {
		t.Fatalf("Get(%q): %q, %d, expected %q, %d", key, v, e, want, wantError)
	}
	if r, want := m.Rank([]byte(key)), len(p.span("", key, true)); r != want {
		t.Fatalf("Rank(%q): %d, expected %d", key, r, want)
	}
	proof := m.Prove([]byte(key))
	if want := p.proof(seed, key); !sameProof(proof, want) {
		t.Fatalf("Prove(%q): %v, expected %v", key, proof, want)
	}
	v, is, e := order.Check(seed, m.Digest(), []byte(key), proof)
	if string(v) != want || is != there || e != api.OK {
		t.Fatalf("Check(%q): %q, %v, %d, expected %q, %v", key, v, is, e, want, there)
	}
}

func sameProof(a, b []api.Side) bool {
	return slices.EqualFunc(a, b, func(x, y api.Side) bool {
		return bytes.Equal(x.Key, y.Key) && bytes.Equal(x.Value, y.Value) && x.Left == y.Left && x.Right == y.Right
	})
}

// checkSpan: Span and SpanDigest.
func (p plain) checkSpan(t *testing.T, seed uint64, m *order.Map, low, high string, bounded bool) {
	t.Helper()
	want := p.span(low, high, bounded)
	var keys []string
	for _, x := range m.Span([]byte(low), []byte(high), bounded) {
		if string(x.Value) != p[string(x.Key)] {
			t.Fatalf("Span(%q, %q, %v): %q has the value %q", low, high, bounded, x.Key, x.Value)
		}
		keys = append(keys, string(x.Key))
	}
	if !slices.Equal(keys, want.keys()) {
		t.Fatalf("Span(%q, %q, %v): %q, expected %q", low, high, bounded, keys, want.keys())
	}
	n, d := m.SpanDigest([]byte(low), []byte(high), bounded)
	if n != len(want) || d != want.digest(seed) {
		t.Fatalf("SpanDigest(%q, %q, %v): %d, %#x, expected %d, %#x", low, high, bounded, n, d, len(want), want.digest(seed))
	}
}

// spoil writes over all bytes of some slices, as far as their memory reaches.
func spoil(slices ...[]byte) {
	for _, s := range slices {
		s = s[:cap(s)]
		for i := range s {
			s[i] ^= 0xA5
		}
	}
}

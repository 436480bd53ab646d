package swap_test

import (
	"bytes"
	"fmt"
	"maps"
	"slices"
	"testing"

	"amnesty/api"
	"amnesty/order"
	"amnesty/slots"
	"amnesty/swap"
)

// plain is the content of a map. What a map of it tells, and takes, is worked out from the content alone, as P2.1, P2.2 and P7.1 say it.
type plain map[string]string

func heightOf(seed uint64, key string) uint64 { return slots.Coin(seed, 3, []byte(key)) }

func little(n uint64, size int) string {
	var b []byte
	for i := range size {
		b = append(b, byte(n>>(8*i)))
	}
	return string(b)
}

func (p plain) keys() []string { return slices.Sorted(maps.Keys(p)) }

// span returns the keys of a span, in order.
func (p plain) span(low, high string, bounded bool) []string {
	return slices.DeleteFunc(p.keys(), func(k string) bool { return k < low || bounded && k >= high })
}

// top returns which of some keys, which stand in order, stands at the top (P2.1).
func top(seed uint64, keys []string) int {
	at := 0
	for i, k := range keys {
		if heightOf(seed, k) > heightOf(seed, keys[at]) {
			at = i
		}
	}
	return at
}

// digest returns the digest of the pairs of some keys, which stand in order (P2.2).
func (p plain) digest(seed uint64, keys []string) uint64 {
	if len(keys) == 0 {
		return 0
	}
	at := top(seed, keys)
	left, right := p.digest(seed, keys[:at]), p.digest(seed, keys[at+1:])
	key, value := keys[at], p[keys[at]]
	b := little(left, 8) + little(uint64(len(key)), 1) + key + little(uint64(len(value)), 2) + value + little(right, 8)
	return slots.Coin(seed, 4, []byte(b))
}

// height returns how many nodes the longest way from the root down has (P7.2), if some keys, which stand in order, are all there are.
func height(seed uint64, keys []string) int {
	if len(keys) == 0 {
		return 0
	}
	at := top(seed, keys)
	return 1 + max(height(seed, keys[:at]), height(seed, keys[at+1:]))
}

// differing returns how many keys only one of two contents has, or both with different values.
func differing(p, q plain) int {
	count := 0
	for k, v := range p {
		if w, there := q[k]; !there || w != v {
			count++
		}
	}
	for k := range q {
		if _, there := p[k]; !there {
			count++
		}
	}
	return count
}

// send returns the messages about a span, with all that follow, and does to to what they say, at once (P7.1).
func (from plain) send(seed uint64, to plain, low, high string, bounded bool) []api.Message {
	here, there := from.span(low, high, bounded), to.span(low, high, bounded)
	m := api.Message{Low: []byte(low), High: []byte(high), Bounded: bounded, Size: len(here), Digest: from.digest(seed, here)}
	m.Same = len(here) == len(there) && m.Digest == to.digest(seed, there)
	switch {
	case m.Same:
		return []api.Message{m}
	case len(here) == 0:
		for _, k := range there {
			delete(to, k)
		}
		return []api.Message{m}
	}
	key := here[top(seed, here)]
	to[key] = from[key]
	m.Pairs = []api.Pair{{Key: []byte(key), Value: []byte(from[key])}}
	lesser := from.send(seed, to, low, key, true)
	return slices.Concat([]api.Message{m}, lesser, from.send(seed, to, key+"\x00", high, bounded))
}

// lines writes messages out, each as a line.
func lines(messages []api.Message) []string {
	var list []string
	for _, m := range messages {
		line := fmt.Sprintf("%q to %q %v: %d %#x same %v", m.Low, m.High, m.Bounded, m.Size, m.Digest, m.Same)
		for _, p := range m.Pairs {
			line += fmt.Sprintf(", %q is %q", p.Key, p.Value)
		}
		list = append(list, line)
	}
	return list
}

func (p plain) mapOf(t *testing.T, seed uint64) *order.Map {
	t.Helper()
	m := order.New(seed)
	for k, v := range p {
		if e := m.Put([]byte(k), []byte(v)); e != api.OK {
			t.Fatalf("Put of %q: %d", k, e)
		}
	}
	return m
}

// check holds a map against the content.
func (p plain) check(t *testing.T, seed uint64, m *order.Map) {
	t.Helper()
	keys := p.keys()
	if m.Len() != len(p) || m.Digest() != p.digest(seed, keys) {
		t.Fatalf("%d pairs with the digest %#x, expected %d with %#x", m.Len(), m.Digest(), len(p), p.digest(seed, keys))
	}
	i := 0
	for k, v := range m.All() {
		if string(k) != keys[i] || string(v) != p[keys[i]] {
			t.Fatalf("pair %d is %q, %q, expected %q, %q", i, k, v, keys[i], p[keys[i]])
		}
		i++
	}
}

// checkMessages holds messages against those of the content, and against the bound of P7.2.
func (from plain) checkMessages(t *testing.T, seed uint64, to plain, got []api.Message) plain {
	t.Helper()
	after := maps.Clone(to)
	want := from.send(seed, after, "", "", false)
	if !slices.Equal(lines(got), lines(want)) {
		t.Fatalf("from %q to %q with the seed %d:\n%q\nexpected\n%q", from, to, seed, lines(got), lines(want))
	}
	if bound := 1 + 2*differing(from, to)*(height(seed, from.keys())+1); len(got) > bound {
		t.Fatalf("from %q to %q: %d messages, more than %d", from, to, len(got), bound)
	}
	return after
}

// mirror mirrors maps of two contents, and checks all that is told of it; it returns the messages.
func (from plain) mirror(t *testing.T, seed uint64, to plain) []api.Message {
	t.Helper()
	a, b := from.mapOf(t, seed), to.mapOf(t, seed)
	source := a.Image()
	messages, e := swap.Mirror(a, b)
	if e != api.OK {
		t.Fatalf("from %q to %q: %d", from, to, e)
	}
	after := from.checkMessages(t, seed, to, messages)
	from.check(t, seed, a)
	after.check(t, seed, b)
	if !bytes.Equal(a.Image(), source) {
		t.Fatalf("from is not as it was")
	}
	if !maps.Equal(after, from) || !bytes.Equal(b.Image(), source) {
		t.Fatalf("from %q to %q: to has not the image of from", from, to)
	}
	return messages
}

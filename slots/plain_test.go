package slots_test

import (
	"bytes"
	"slices"
	"sort"
	"testing"

	"amnesty/api"
	"amnesty/slots"
)

// plain is the content of a table. What a table of it shows is worked out from the content alone, as P1.3, P1.4 and P1.11 say it.
type plain map[string]string

// plainCell is a key that lies in a cell, with its rank.
type plainCell struct {
	full bool
	key  string
	rank uint64
}

func plainBefore(a, b plainCell) bool {
	return a.rank > b.rank || a.rank == b.rank && a.key < b.key
}

func rankOf(seed uint64, key string) uint64 { return slots.Coin(seed, 2, []byte(key)) }

func homeOf(seed uint64, key string, cells int) int {
	return int(slots.Coin(seed, 1, []byte(key)) % uint64(cells))
}

// plainCount is the number of cells of a table of n pairs.
func plainCount(n int) int {
	if n <= 6 {
		return 8
	}
	c := 1
	for 4*n > 3*c {
		c += c
	}
	return c
}

// lay lays keys into cells, one after another; a key may be there twice.
func lay(seed uint64, keys []string, cells int) []plainCell {
	var list []plainCell
	for _, k := range keys {
		list = append(list, plainCell{true, k, rankOf(seed, k)})
	}
	sort.SliceStable(list, func(i, j int) bool { return plainBefore(list[i], list[j]) })
	out := make([]plainCell, cells)
	for _, c := range list {
		at := homeOf(seed, c.key, cells)
		for out[at].full {
			at = (at + 1) % cells
		}
		out[at] = c
	}
	return out
}

func (p plain) keys() []string {
	var keys []string
	for k := range p {
		keys = append(keys, k)
	}
	slices.Sort(keys)
	return keys
}

func (p plain) lay(seed uint64) []plainCell { return lay(seed, p.keys(), plainCount(len(p))) }

func (p plain) image(seed uint64) []byte { return p.imageOf(len(p), p.lay(seed)) }

// imageOf writes cells in the form of an image, whatever they are.
func (p plain) imageOf(n int, cells []plainCell) []byte {
	out := []byte{byte(n), byte(n / 256), byte(n / 65536), byte(n / 65536 / 256)}
	for _, c := range cells {
		if !c.full {
			out = append(out, 0)
			continue
		}
		v := p[c.key]
		out = append(out, 1, byte(len(c.key)), byte(len(v)%256), byte(len(v)/256))
		out = append(out, c.key+v...)
	}
	return out
}

func (p plain) looks(seed uint64, key string) int {
	cells := p.lay(seed)
	wanted := plainCell{true, key, rankOf(seed, key)}
	at := homeOf(seed, key, len(cells))
	for n := 1; ; n++ {
		if c := cells[at]; !c.full || c.key == key || plainBefore(wanted, c) {
			return n
		}
		at = (at + 1) % len(cells)
	}
}

// check holds everything that a table tells against its content.
func (p plain) check(t *testing.T, seed uint64, table *slots.Table, others ...string) {
	t.Helper()
	if table.Len() != len(p) {
		t.Fatalf("Len: %d, expected %d", table.Len(), len(p))
	}
	if got, want := table.Image(), p.image(seed); !bytes.Equal(got, want) {
		t.Fatalf("%d pairs with seed %d: the image is\n%v, expected\n%v", len(p), seed, got, want)
	}
	p.checkCells(t, seed, table)
	for k, v := range p {
		if got, e := table.Get([]byte(k)); string(got) != v || e != api.OK {
			t.Fatalf("Get(%q): %q, %d, expected %q", k, got, e, v)
		}
	}
	for _, k := range append(others, p.keys()...) {
		if _, there := p[k]; !there {
			if got, e := table.Get([]byte(k)); len(got) != 0 || e != api.ErrNone {
				t.Fatalf("Get(%q): %q, %d, expected ErrNone", k, got, e)
			}
		}
		if got, want := table.Looks([]byte(k)), p.looks(seed, k); got != want {
			t.Fatalf("Looks(%q): %d, expected %d", k, got, want)
		}
	}
}

func (p plain) checkCells(t *testing.T, seed uint64, table *slots.Table) {
	t.Helper()
	got, want := table.Cells(), p.lay(seed)
	if len(got) != len(want) {
		t.Fatalf("%d pairs: %d cells, expected %d", len(p), len(got), len(want))
	}
	for i, c := range got {
		if c.Full != want[i].full || string(c.Key) != want[i].key || string(c.Value) != p[want[i].key] {
			t.Fatalf("cell %d: %v, %q, %q, expected the key %q", i, c.Full, c.Key, c.Value, want[i].key)
		}
		if !c.Full && (c.Key != nil || c.Value != nil) {
			t.Fatalf("cell %d is free, and its fields are not zero", i)
		}
	}
}

// tableOf returns a table into which a content was put.
func (p plain) tableOf(t *testing.T, seed uint64) *slots.Table {
	t.Helper()
	table := slots.New(seed)
	for _, k := range p.keys() {
		put(t, table, k, p[k])
	}
	return table
}

func put(t *testing.T, table *slots.Table, key, value string) {
	t.Helper()
	if e := table.Put([]byte(key), []byte(value)); e != api.OK {
		t.Fatalf("Put(%q, %d bytes): %d", key, len(value), e)
	}
}

func drop(t *testing.T, table *slots.Table, key string) {
	t.Helper()
	if e := table.Drop([]byte(key)); e != api.OK {
		t.Fatalf("Drop(%q): %d", key, e)
	}
}

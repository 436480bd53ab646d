package slots

import (
	"bytes"

	"amnesty/api"
)

// leastCells is the number of cells of a table with few pairs.
const leastCells = 8

// Table is a table of pairs that has one shape for each content.
type Table struct {
	// All that changes lies behind one pointer: so a Table that a caller copies is the same table still, and not a second one that shares some of its cells.
	body *body
}

// body is what a table has. A cell whose key has no bytes is free. At least a quarter of the cells is free, so each walk along them ends.
type body struct {
	seed  uint64
	count int
	cells []api.Pair
}

// New returns an empty table.
func New(seed uint64) *Table {
	return &Table{&body{seed: seed, cells: make([]api.Pair, leastCells)}}
}

// Put puts a pair in, or gives a key another value.
func (t *Table) Put(key, value []byte) api.Errno {
	if t.missing() || !allowed(len(key), len(value)) {
		return api.ErrArg
	}
	b := t.body
	at, _, there := b.seek(key)
	if there {
		b.cells[at].Value = bytes.Clone(value)
		return api.OK
	}
	if b.count == api.MaxPairs {
		return api.ErrFull
	}
	b.add(at, api.Pair{Key: bytes.Clone(key), Value: bytes.Clone(value)})
	return api.OK
}

// Drop takes a key out.
func (t *Table) Drop(key []byte) api.Errno {
	if t.missing() {
		return api.ErrArg
	}
	at, _, there := t.body.seek(key)
	if !there {
		return api.ErrNone
	}
	t.body.remove(at)
	return api.OK
}

// Get returns the value of a key.
func (t *Table) Get(key []byte) ([]byte, api.Errno) {
	if t.missing() {
		return nil, api.ErrNone
	}
	at, _, there := t.body.seek(key)
	if !there {
		return nil, api.ErrNone
	}
	return bytes.Clone(t.body.cells[at].Value), api.OK
}

// Len returns the number of pairs.
func (t *Table) Len() int {
	if t.missing() {
		return 0
	}
	return t.body.count
}

// Cells returns the cells.
func (t *Table) Cells() []api.Cell {
	if t.missing() {
		return nil
	}
	cells := make([]api.Cell, len(t.body.cells))
	for i, p := range t.body.cells {
		if !isFree(p) {
			cells[i] = api.Cell{Full: true, Key: bytes.Clone(p.Key), Value: bytes.Clone(p.Value)}
		}
	}
	return cells
}

// Looks returns how many cells are looked at until it is known whether a key is there.
func (t *Table) Looks(key []byte) int {
	if t.missing() {
		return 0
	}
	_, looks, _ := t.body.seek(key)
	return looks
}

// missing reports whether the table is nil, or the zero value.
func (t *Table) missing() bool {
	return t == nil || t.body == nil
}

// allowed reports whether a pair may have a key and a value of these lengths.
func allowed(key, value int) bool {
	return key >= 1 && key <= api.MaxKey && value <= api.MaxValue
}

// isFree reports whether a cell has no pair.
func isFree(cell api.Pair) bool {
	return len(cell.Key) == 0
}

// cellsFor returns the number of cells of a table of so many pairs.
func cellsFor(pairs int) int {
	cells := leastCells
	for 4*pairs > 3*cells {
		cells *= 2
	}
	return cells
}

// home returns the cell of so many where a key would lie first.
func home(seed uint64, key []byte, cells int) int {
	return int(Coin(seed, tagHome, key) % uint64(cells))
}

// comesBefore reports whether the pair of one key comes before that of another one.
func comesBefore(seed uint64, a, b []byte) bool {
	one, other := Coin(seed, tagRank, a), Coin(seed, tagRank, b)
	return one > other || one == other && bytes.Compare(a, b) < 0
}

// seek looks for a key, and returns the cell where it lies or would be put, how many cells were looked at, and whether it is there.
func (b *body) seek(key []byte) (at, looks int, there bool) {
	at = home(b.seed, key, len(b.cells))
	for looks = 1; ; looks++ {
		p := b.cells[at]
		if isFree(p) {
			return at, looks, false
		}
		if bytes.Equal(p.Key, key) {
			return at, looks, true
		}
		if comesBefore(b.seed, key, p.Key) {
			return at, looks, false
		}
		at = b.next(at)
	}
}

// next returns the cell above a cell, or the first one behind the last one.
func (b *body) next(at int) int {
	return (at + 1) % len(b.cells)
}

// add puts in a new pair whose search ended at a cell.
func (b *body) add(at int, p api.Pair) {
	b.count++
	if cellsFor(b.count) != len(b.cells) {
		b.spread(append(b.pairs(), p))
		return
	}
	b.push(at, p)
}

// push puts a pair into a cell; one that lies there and comes after it goes on to the cell where its own search ends then, and so on.
func (b *body) push(at int, p api.Pair) {
	for ; !isFree(p); at = b.next(at) {
		there := b.cells[at]
		if isFree(there) || comesBefore(b.seed, p.Key, there.Key) {
			b.cells[at], p = p, there
		}
	}
}

// remove takes the pair of a cell out.
func (b *body) remove(at int) {
	b.count--
	b.cells[at] = api.Pair{}
	if cellsFor(b.count) != len(b.cells) {
		b.spread(b.pairs())
		return
	}
	b.pull(at)
}

// pull fills a cell that became free. The first pair behind it that was searched for past the cell comes before all later ones that were, so it is the one that would lie there; it leaves a free cell in its turn.
func (b *body) pull(free int) {
	for at := b.next(free); !isFree(b.cells[at]); at = b.next(at) {
		first := home(b.seed, b.cells[at].Key, len(b.cells))
		if b.steps(first, at) >= b.steps(free, at) {
			b.cells[free], b.cells[at] = b.cells[at], api.Pair{}
			free = at
		}
	}
}

// steps returns how many steps upwards and around lead from one cell to another one.
func (b *body) steps(from, to int) int {
	return (to - from + len(b.cells)) % len(b.cells)
}

// pairs returns the pairs as they lie.
func (b *body) pairs() []api.Pair {
	var list []api.Pair
	for _, p := range b.cells {
		if !isFree(p) {
			list = append(list, p)
		}
	}
	return list
}

// spread lays pairs into as many cells as they need.
func (b *body) spread(pairs []api.Pair) {
	seed, cells := b.seed, cellsFor(len(pairs))
	start := func(p api.Pair) int { return home(seed, p.Key, cells) }
	before := func(p, q api.Pair) bool { return comesBefore(seed, p.Key, q.Key) }
	b.cells = make([]api.Pair, cells)
	for cell, i := range Layout(cells, pairs, start, before) {
		if i >= 0 {
			b.cells[cell] = pairs[i]
		}
	}
}

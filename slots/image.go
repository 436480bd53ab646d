package slots

import (
	"bytes"

	"amnesty/api"
)

const (
	countSize = 4 // bytes of the number of pairs
	headSize  = 4 // bytes of a pair's mark and lengths
)

// Image returns the bytes of the table.
func (t *Table) Image() []byte {
	if t.missing() {
		return nil
	}
	n := t.body.count
	image := []byte{byte(n), byte(n >> 8), byte(n >> 16), byte(n >> 24)}
	for _, p := range t.body.cells {
		if isFree(p) {
			image = append(image, 0)
			continue
		}
		image = append(image, 1, byte(len(p.Key)), byte(len(p.Value)), byte(len(p.Value)>>8))
		image = append(image, p.Key...)
		image = append(image, p.Value...)
	}
	return image
}

// Load returns the table of an image.
func Load(seed uint64, image []byte) (*Table, api.Errno) {
	count, rest, ok := readCount(image)
	if !ok {
		return nil, api.ErrForm
	}
	b := &body{seed: seed, count: count, cells: make([]api.Pair, cellsFor(count))}
	for i := range b.cells {
		b.cells[i], rest, ok = readCell(rest)
		if !ok {
			return nil, api.ErrForm
		}
	}
	if len(rest) > 0 || !b.sound() {
		return nil, api.ErrForm
	}
	return &Table{b}, api.OK
}

// readCount reads the number of pairs, and returns what follows it. Bytes that are too few for the cells of so many pairs are refused at once, so that a short image cannot ask for a large table.
func readCount(image []byte) (count int, rest []byte, ok bool) {
	if len(image) < countSize {
		return 0, nil, false
	}
	n := uint32(image[0]) | uint32(image[1])<<8 | uint32(image[2])<<16 | uint32(image[3])<<24
	rest = image[countSize:]
	if n > api.MaxPairs || len(rest) < cellsFor(int(n)) {
		return 0, nil, false
	}
	return int(n), rest, true
}

// readCell reads a cell, and returns what follows it.
func readCell(image []byte) (cell api.Pair, rest []byte, ok bool) {
	if len(image) == 0 || image[0] > 1 {
		return api.Pair{}, nil, false
	}
	if image[0] == 0 {
		return api.Pair{}, image[1:], true
	}
	if len(image) < headSize {
		return api.Pair{}, nil, false
	}
	key, value := int(image[1]), int(image[2])|int(image[3])<<8
	rest = image[headSize:]
	if !allowed(key, value) || len(rest) < key+value {
		return api.Pair{}, nil, false
	}
	cell = api.Pair{Key: bytes.Clone(rest[:key]), Value: bytes.Clone(rest[key : key+value])}
	return cell, rest[key+value:], true
}

// sound reports whether as many cells as are counted have a pair, and the search for each of these ends where it lies: then no key is there twice, and each pair has the first cell from its home on that those before it leave free. The count comes first, because a search ends only if a cell is free.
func (b *body) sound() bool {
	if len(b.pairs()) != b.count {
		return false
	}
	for i, p := range b.cells {
		if isFree(p) {
			continue
		}
		if at, _, _ := b.seek(p.Key); at != i {
			return false
		}
	}
	return true
}

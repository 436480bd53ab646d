package disk

import (
	"bytes"
	"cmp"
	"slices"

	"amnesty/api"
	"amnesty/slots"
)

// The tags of the coins that tell where a piece lies.
const (
	tagHome = 1
	tagRank = 2
)

// Where the parts of a cell with a piece begin (P3.2).
const (
	nameLenAt = 1
	sizeAt    = 2
	lastAt    = 3
	numberAt  = 4
	nameAt    = 6
	dataAt    = nameAt + api.MaxName
	checkAt   = dataAt + api.PieceSize
	checkEnd  = checkAt + 8
)

// piece is a part of a file.
type piece struct {
	name   string
	number int
	last   bool
	data   []byte
}

// placed is a piece with its key, which is what its place comes from.
type placed struct {
	piece
	key  []byte
	rank uint64
}

// allowed reports whether a file may have a name and data.
func allowed(name string, data []byte) bool {
	if len(name) < 1 || len(name) > api.MaxName {
		return false
	}
	for i := range len(name) {
		c := name[i]
		if (c < 'a' || c > 'z') && (c < '0' || c > '9') && c != '-' && c != '.' {
			return false
		}
	}
	return len(data) <= api.MaxData
}

// roomOf returns how many pieces fit in so many cells.
func roomOf(cells int) int {
	return 3 * cells / 4
}

// countPieces returns how many pieces some files have.
func countPieces(files map[string][]byte) int {
	count := 0
	for _, data := range files {
		count += pieceCount(data)
	}
	return count
}

// pieceCount returns how many pieces a file has: also one without data has a piece.
func pieceCount(data []byte) int {
	return max(1, (len(data)+api.PieceSize-1)/api.PieceSize)
}

// split returns the pieces of a file.
func split(name string, data []byte) []piece {
	count := pieceCount(data)
	var pieces []piece
	for number := range count {
		from := number * api.PieceSize
		to := min(from+api.PieceSize, len(data))
		pieces = append(pieces, piece{name, number, number == count-1, data[from:to:to]})
	}
	return pieces
}

// join returns the files of some pieces.
func join(pieces []piece) map[string][]byte {
	slices.SortFunc(pieces, func(p, q piece) int { return cmp.Compare(p.number, q.number) })
	files := map[string][]byte{}
	for _, p := range pieces {
		files[p.name] = append(files[p.name], p.data...)
	}
	return files
}

// place returns a piece with its key.
func place(seed uint64, p piece) placed {
	key := append([]byte(p.name), 0, byte(p.number>>8), byte(p.number))
	return placed{p, key, slots.Coin(seed, tagRank, key)}
}

// plainCells returns the cells, of so many, in which files lie that have room in them.
func plainCells(seed uint64, cells int, files map[string][]byte) []block {
	var pieces []placed
	for name, data := range files {
		for _, p := range split(name, data) {
			pieces = append(pieces, place(seed, p))
		}
	}
	start := func(p placed) int { return int(slots.Coin(seed, tagHome, p.key) % uint64(cells)) }
	before := func(p, q placed) bool {
		return p.rank > q.rank || p.rank == q.rank && bytes.Compare(p.key, q.key) < 0
	}
	plain := make([]block, cells)
	for c, i := range slots.Layout(cells, pieces, start, before) {
		if i >= 0 {
			plain[c] = pieces[i].cell(seed)
		}
	}
	return plain
}

// cell returns the bytes of a cell with the piece.
func (p piece) cell(seed uint64) block {
	var c block
	c[0] = 1
	c[nameLenAt] = byte(len(p.name))
	c[sizeAt] = byte(len(p.data))
	if p.last {
		c[lastAt] = 1
	}
	putLittle(c[numberAt:nameAt], uint64(p.number))
	copy(c[nameAt:dataAt], p.name)
	copy(c[dataAt:checkAt], p.data)
	putLittle(c[checkAt:checkEnd], slots.Coin(seed, tagCheck, c[:checkAt]))
	return c
}

// pieces returns the pieces that lie in the cells, whose data are parts of the disk's bytes. What is no cell of a piece is read as one, too: isPlain tells such bytes from those of files.
func (b *body) pieces() []piece {
	var list []piece
	cells := b.cells()
	for c := range cells {
		at := cellBlock(cells, c)
		if b.block(at) != (block{}) {
			list = append(list, readPiece(b.span(at, 1)))
		}
	}
	return list
}

// readPiece returns the piece that lies in a cell.
func readPiece(cell []byte) piece {
	nameEnd := nameAt + min(int(cell[nameLenAt]), api.MaxName)
	dataEnd := dataAt + min(int(cell[sizeAt]), api.PieceSize)
	return piece{
		name:   string(cell[nameAt:nameEnd]),
		number: int(little(cell[numberAt:nameAt])),
		last:   cell[lastAt] == 1,
		data:   cell[dataAt:dataEnd:dataEnd],
	}
}

// files returns the files.
func (b *body) files() map[string][]byte {
	return join(b.pieces())
}

// isPlain reports whether the cells are those of some files: if they are, it is those that are read from them.
func (b *body) isPlain() bool {
	files := b.files()
	for name, data := range files {
		if !allowed(name, data) {
			return false
		}
	}
	cells := b.cells()
	if countPieces(files) > roomOf(cells) {
		return false
	}
	for c, plain := range plainCells(b.seed, cells, files) {
		if b.block(cellBlock(cells, c)) != plain {
			return false
		}
	}
	return true
}

package disk

import "amnesty/api"

// block is what one write writes.
type block [api.BlockSize]byte

// The blocks (P3.1): the header, the entries, which are a block with the number of a cell and a block with its bytes each, and the cells.
const (
	header     = 0
	firstEntry = 1
	entryLen   = 2
)

// leastCells is the least number of cells of a disk.
const leastCells = 8

// tagCheck is the tag of the coins by which blocks are checked.
const tagCheck = 5

// allowedCells reports whether a disk may have so many cells.
func allowedCells(cells int) bool {
	return cells >= leastCells && cells <= api.MaxCells
}

// sizeFor returns the number of bytes of a disk with so many cells.
func sizeFor(cells int) int {
	return cellBlock(cells, cells) * api.BlockSize
}

// cellsFor returns the number of cells of a disk with so many bytes. (Of a number of bytes that no disk has it is not that of a disk, or sizeFor of it differs.)
func cellsFor(size int) int {
	return (size/api.BlockSize - firstEntry) / (entryLen + 1)
}

// entryBlock returns the first block of an entry.
func entryBlock(k int) int {
	return firstEntry + entryLen*k
}

// cellBlock returns the block of a cell, of so many.
func cellBlock(cells, c int) int {
	return entryBlock(cells) + c
}

// cells returns the number of cells.
func (b *body) cells() int {
	return cellsFor(len(b.bytes))
}

// span returns the bytes of so many blocks, as they lie on the disk.
func (b *body) span(first, count int) []byte {
	from, to := first*api.BlockSize, (first+count)*api.BlockSize
	return b.bytes[from:to:to]
}

// block returns what a block has.
func (b *body) block(at int) block {
	var copied block
	copy(copied[:], b.span(at, 1))
	return copied
}

// putLittle writes a number into all bytes of a slice, the least one first.
func putLittle(b []byte, number uint64) {
	for i := range b {
		b[i] = byte(number)
		number >>= 8
	}
}

// little returns the number of which a slice has the bytes, the least one first.
func little(b []byte) uint64 {
	var number uint64
	for i, c := range b {
		number |= uint64(c) << (8 * i)
	}
	return number
}

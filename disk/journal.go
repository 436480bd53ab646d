package disk

import (
	"amnesty/api"
	"amnesty/slots"
)

// Where the parts of the header begin (P3.5).
const (
	coinAt  = 4
	validAt = 12
)

// numberSize is the number of bytes of a number of entries, or of a cell, in the journal.
const numberSize = 4

// writer writes a block.
type writer func(at int, to block)

// run calls an operation with the function that makes all its writes, until the power fails. Whatever breaks an operation off leaves the disk down, because only a mount could repair it.
func (b *body) run(power, torn int, operation func(write writer)) {
	b.writes = 0
	defer func() {
		if recover() != nil {
			b.down = true
		}
	}()
	operation(func(at int, to block) {
		// A power below 0 is never reached.
		if b.writes == power {
			copy(b.span(at, 1), to[:min(max(torn, 0), api.BlockSize)])
			panic(api.ErrDown)
		}
		copy(b.span(at, 1), to[:])
		b.writes++
	})
}

// replace writes new cells, by way of the journal.
func (b *body) replace(plain []block, write writer) {
	changed := b.changed(plain)
	if len(changed) == 0 {
		return
	}
	for k, c := range changed {
		write(entryBlock(k), numberBlock(c))
		write(entryBlock(k)+1, plain[c])
	}
	write(header, b.headerFor(len(changed)))
	for _, c := range changed {
		write(cellBlock(len(plain), c), plain[c])
	}
	write(header, block{})
	for at := firstEntry; at < entryBlock(len(changed)); at++ {
		write(at, block{})
	}
}

// changed returns the numbers of the cells that are to have other bytes.
func (b *body) changed(plain []block) []int {
	var numbers []int
	for c, to := range plain {
		if b.block(cellBlock(len(plain), c)) != to {
			numbers = append(numbers, c)
		}
	}
	return numbers
}

// repair finishes the commit that the journal tells of, if its header is valid, and wipes the journal.
func (b *body) repair(write writer) {
	cells := b.cells()
	for k := range b.validEntries() {
		at, to := cellBlock(cells, b.entryCell(k)), b.block(entryBlock(k)+1)
		if b.block(at) != to {
			write(at, to)
		}
	}
	for at := header; at < entryBlock(cells); at++ {
		if b.block(at) != (block{}) {
			write(at, block{})
		}
	}
}

// validEntries returns the number of entries, if the header is valid, otherwise 0.
func (b *body) validEntries() int {
	given := b.block(header)
	count := int(little(given[:coinAt]))
	if count < 1 || count > b.cells() || given != b.headerFor(count) {
		return 0
	}
	for k := range count {
		if c := b.entryCell(k); c >= b.cells() || b.block(entryBlock(k)) != numberBlock(c) {
			return 0
		}
	}
	return count
}

// entryCell returns the number of the cell that an entry has.
func (b *body) entryCell(k int) int {
	return int(little(b.span(entryBlock(k), 1)[:numberSize]))
}

// numberBlock returns the first block of an entry for a cell.
func numberBlock(c int) block {
	var first block
	putLittle(first[:numberSize], uint64(c))
	return first
}

// headerFor returns the valid header of the first entries, as they lie on the disk.
func (b *body) headerFor(entries int) block {
	var h block
	putLittle(h[:coinAt], uint64(entries))
	putLittle(h[coinAt:validAt], slots.Coin(b.seed, tagCheck, b.span(firstEntry, entryLen*entries)))
	h[validAt] = 1
	return h
}

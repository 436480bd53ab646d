package desk

import (
	"slices"
	"strconv"
	"strings"

	"amnesty/api"
	"amnesty/disk"
	"amnesty/keep"
	"amnesty/order"
	"amnesty/slots"
	"amnesty/swap"
)

const tagLook = 7 // the tag of the coin that look answers

// place is a store that lies on a disk.
type place struct {
	seed  uint64
	store *keep.Store // nil while the place is down: it is lost then
	disk  *disk.Disk
}

// newPlace returns a place with an empty store, and a disk without files.
func newPlace(seed uint64, cells int) *place {
	formatted, _ := disk.Format(seed, cells)
	return &place{seed, keep.Open(seed), formatted}
}

// isDown reports whether the place is down.
func (p *place) isDown() bool {
	return p.store == nil
}

// save writes the records of the store to the disk, and returns the answer.
func (p *place) save(power, torn int) string {
	switch p.disk.Commit(p.changes(), power, torn) {
	case api.OK:
		return "saved " + strconv.Itoa(p.disk.Writes())
	case api.ErrFull:
		return full
	}
	p.store = nil
	return down
}

// changes returns the changes by which the files become those of the store's records: all of their parts are written, and the files behind these go.
func (p *place) changes() []api.Change {
	var list []api.Change
	for part := range slices.Chunk(p.store.Records(), api.MaxData) {
		list = append(list, api.Change{Name: partName(len(list)), Data: part})
	}
	files := p.disk.Files()
	for _, f := range files[min(len(list), len(files)):] {
		list = append(list, api.Change{Name: f.Name, Gone: true})
	}
	return list
}

// mount repairs the bytes of the disk, reads the store that lies there, and returns the answer.
func (p *place) mount(power, torn int) string {
	p.store = nil
	mounted, err := disk.Mount(p.seed, p.disk.Bytes(), power, torn)
	if err == api.ErrForm { // never, by P3.12, of bytes that saves and mounts have left
		return bad
	}
	p.disk = mounted
	if err == api.ErrDown {
		return down
	}
	p.store = storeOf(p.seed, mounted.Files())
	if p.isDown() {
		return bad
	}
	return "up " + strconv.Itoa(mounted.Writes())
}

// storeOf returns the store whose records lie in some files, which stand in the order of their names; nil if these are not a store's records in parts. (No file is longer than MaxData: so if what was read is as long as all its parts can be together, each of them is that long.)
func storeOf(seed uint64, files []api.File) *keep.Store {
	if len(files) == 0 {
		return keep.Open(seed)
	}
	var records []byte
	for k, f := range files {
		if f.Name != partName(k) || len(records) != k*api.MaxData {
			return nil
		}
		records = append(records, f.Data...)
	}
	store, _ := keep.Load(seed, records) // nil, if it refuses them
	return store
}

// partName returns the name of a file that has a part of the records. No disk has room for as many as a thousand.
func partName(k int) string {
	return "r" + strconv.Itoa(1000 + k)[1:]
}

// mirrorTo gives the records to the store of a place with the same seed, and returns the number of messages. (Also if digests were to deceive Mirror, each pair comes from one of the stores, and there are as many as in this one: so they are always those of a store.)
func (p *place) mirrorTo(q *place) int {
	from, _ := order.Load(p.seed, p.store.Records())
	to, _ := order.Load(q.seed, q.store.Records())
	messages, _ := swap.Mirror(from, to)
	q.store, _ = keep.Load(q.seed, to.Image())
	return len(messages)
}

// bytes returns all bytes of the place: those of its store, of which none are left while it is down, and those of its disk.
func (p *place) bytes() []byte {
	return slices.Concat(p.store.Image(), p.disk.Bytes())
}

// look returns what a look at all bytes answers.
func (p *place) look() string {
	short := strconv.FormatUint(slots.Coin(0, tagLook, p.bytes()), 16)
	return strings.Repeat("0", seedSize-len(short)) + short
}

package disk_test

import (
	"bytes"
	"math/rand"
	"slices"
	"strings"
	"testing"

	"amnesty/api"
	"amnesty/disk"
	"amnesty/slots"
)

// plain is the files of a disk. What a disk of them shows, and what is written to it, is worked out here from the document alone, as P3.1 to P3.7 say it.
type plain map[string]string

// size is the number of bytes of a block, and zeros are the bytes of a block that has nothing.
const size = 64

var zeros = strings.Repeat("\x00", size)

func little(n uint64, size int) string {
	var b []byte
	for range size {
		b = append(b, byte(n))
		n >>= 8
	}
	return string(b)
}

func filled(s string, size int) string { return s + strings.Repeat("\x00", size-len(s)) }

func coinOf(seed uint64, tag int, s string) uint64 { return slots.Coin(seed, tag, []byte(s)) }

// piece is a piece of a file.
type piece struct {
	name   string
	number int
	last   bool
	data   string
}

func (p piece) key() string {
	return p.name + "\x00" + string([]byte{byte(p.number >> 8), byte(p.number)})
}

// cell is what a cell with the piece has (P3.2).
func (p piece) cell(seed uint64) string {
	last := "\x00"
	if p.last {
		last = "\x01"
	}
	told := "\x01" + little(uint64(len(p.name)), 1) + little(uint64(len(p.data)), 1) + last + little(uint64(p.number), 2)
	return sealed(seed, told+filled(p.name, 16)+filled(p.data, 32))
}

// sealed appends to the first 54 bytes of a cell those that follow from them.
func sealed(seed uint64, told string) string {
	return told + little(coinOf(seed, 5, told), 8) + "\x00\x00"
}

func (p plain) names() []string {
	var names []string
	for name := range p {
		names = append(names, name)
	}
	slices.Sort(names)
	return names
}

func (p plain) pieces() []piece {
	var list []piece
	for _, name := range p.names() {
		rest, number := p[name], 0
		for ; len(rest) > 32; number++ {
			list = append(list, piece{name, number, false, rest[:32]})
			rest = rest[32:]
		}
		list = append(list, piece{name, number, true, rest})
	}
	return list
}

// lay returns the cells in which pieces lie that come in a given order, each in the first free cell from its home on.
func lay(seed uint64, cells int, pieces []piece) []string {
	list := slices.Repeat([]string{zeros}, cells)
	for _, p := range pieces {
		at := int(coinOf(seed, 1, p.key()) % uint64(cells))
		for list[at] != zeros {
			at = (at + 1) % cells
		}
		list[at] = p.cell(seed)
	}
	return list
}

// ranked returns pieces in the order of P3.3.
func ranked(seed uint64, pieces []piece) []piece {
	return slices.SortedFunc(slices.Values(pieces), func(a, b piece) int {
		one, other := coinOf(seed, 2, a.key()), coinOf(seed, 2, b.key())
		switch {
		case one > other:
			return -1
		case one < other:
			return 1
		}
		return strings.Compare(a.key(), b.key())
	})
}

func (p plain) cells(seed uint64, cells int) []string {
	return lay(seed, cells, ranked(seed, p.pieces()))
}

// atRest puts a journal of zeros ahead of cells (P3.4).
func atRest(cells []string) string {
	return strings.Repeat(zeros, 1+2*len(cells)) + strings.Join(cells, "")
}

// bytes are the plain bytes of the files.
func (p plain) bytes(seed uint64, cells int) string { return atRest(p.cells(seed, cells)) }

func room(cells int) int { return cells * 3 / 4 }

// write is a write of a block.
type write struct {
	at int
	to string
}

// entry is what an entry of the journal has.
type entry struct{ first, second string }

func entryFor(cell int, to string) entry { return entry{filled(little(uint64(cell), 4), size), to} }

// headerFor is the header of some entries (P3.5).
func headerFor(seed uint64, entries []entry) string {
	all := ""
	for _, e := range entries {
		all += e.first + e.second
	}
	return filled(little(uint64(len(entries)), 4)+little(coinOf(seed, 5, all), 8)+"\x01", size)
}

// commitWrites are the writes of a commit that replaces some files by others.
func commitWrites(seed uint64, cells int, from, to plain) []write {
	old := from.cells(seed, cells)
	var entries []entry
	var toCells, wipes []write
	for c, new := range to.cells(seed, cells) {
		if new != old[c] {
			k := len(entries)
			entries = append(entries, entryFor(c, new))
			toCells = append(toCells, write{1 + 2*cells + c, new})
			wipes = append(wipes, write{1 + 2*k, zeros}, write{2 + 2*k, zeros})
		}
	}
	if len(entries) == 0 {
		return nil
	}
	var all []write
	for k, e := range entries {
		all = append(all, write{1 + 2*k, e.first}, write{2 + 2*k, e.second})
	}
	all = append(all, write{0, headerFor(seed, entries)})
	all = append(all, toCells...)
	all = append(all, write{0, zeros})
	return append(all, wipes...)
}

// blocksOf cuts bytes into blocks.
func blocksOf(b string) []string {
	var list []string
	for ; len(b) > 0; b = b[size:] {
		list = append(list, b[:size])
	}
	return list
}

func number(b string) uint64 {
	n := uint64(0)
	for i := len(b) - 1; i >= 0; i-- {
		n = n<<8 + uint64(b[i])
	}
	return n
}

// validEntries returns the entries, if the header is valid (P3.6).
func validEntries(seed uint64, blocks []string) []entry {
	cells := uint64((len(blocks) - 1) / 3)
	n := number(blocks[0][:4])
	if blocks[0][12] != 1 || n < 1 || n > cells || blocks[0][13:] != zeros[13:] {
		return nil
	}
	var entries []entry
	for k := range int(n) {
		e := entry{blocks[1+2*k], blocks[2+2*k]}
		if number(e.first[:4]) >= cells || e.first[4:] != zeros[4:] {
			return nil
		}
		entries = append(entries, e)
	}
	if blocks[0] != headerFor(seed, entries) {
		return nil
	}
	return entries
}

// repairWrites are the writes by which a mount repairs bytes.
func repairWrites(seed uint64, bytes string) []write {
	blocks := blocksOf(bytes)
	cells := (len(blocks) - 1) / 3
	var all []write
	set := func(at int, to string) {
		if blocks[at] != to {
			blocks[at] = to
			all = append(all, write{at, to})
		}
	}
	for _, e := range validEntries(seed, blocks) {
		set(1+2*cells+int(number(e.first[:4])), e.second)
	}
	for at := range 1 + 2*cells {
		set(at, zeros)
	}
	return all
}

// result is what some writes leave.
type result struct {
	bytes string
	made  int
	down  bool
}

// made returns what writes leave if the power is that of P3.7.
func made(bytes string, writes []write, power, torn int) result {
	b := []byte(bytes)
	for i, w := range writes {
		if i == power {
			for j := 0; j < torn && j < size; j++ {
				b[w.at*size+j] = w.to[j]
			}
			return result{string(b), i, true}
		}
		copy(b[w.at*size:], w.to)
	}
	return result{string(b), len(writes), false}
}

// check holds what a disk that is not down tells against its files.
func (p plain) check(t *testing.T, seed uint64, cells int, d *disk.Disk) {
	t.Helper()
	if got, want := string(d.Bytes()), p.bytes(seed, cells); got != want {
		t.Fatalf("seed %d, %d cells, files %q: the bytes differ from the plain bytes in the blocks %v", seed, cells, p, differing(got, want))
	}
	var names []string
	for _, f := range d.Files() {
		if string(f.Data) != p[f.Name] {
			t.Fatalf("Files: %q has %q, expected %q", f.Name, f.Data, p[f.Name])
		}
		names = append(names, f.Name)
	}
	if !slices.Equal(names, p.names()) {
		t.Fatalf("Files: %q, expected %q", names, p.names())
	}
	if got, want := d.Free(), room(cells)-len(p.pieces()); got != want {
		t.Fatalf("Free: %d, expected %d", got, want)
	}
	for _, name := range slices.Concat(names, []string{"", "nobody", "A", "a\x00", strings.Repeat("a", 17)}) {
		want, there := p[name]
		if b, e := d.Read(name); string(b) != want || there != (e == api.OK) || !there && e != api.ErrNone {
			t.Fatalf("Read(%q): %q, %d, expected %q, %v", name, b, e, want, there)
		}
	}
}

// checkDown holds what a disk that is down tells against what is there.
func checkDown(t *testing.T, d *disk.Disk, want result) {
	t.Helper()
	if got := string(d.Bytes()); got != want.bytes {
		t.Fatalf("the bytes of a disk that is down differ in the blocks %v", differing(got, want.bytes))
	}
	if n := d.Writes(); n != want.made {
		t.Fatalf("Writes of a disk that is down: %d, expected %d", n, want.made)
	}
	if l := d.Files(); len(l) != 0 || d.Free() != 0 {
		t.Fatalf("a disk that is down has %d files and room for %d pieces", len(l), d.Free())
	}
	for _, name := range []string{"a", "nobody", "", "A"} {
		if b, e := d.Read(name); len(b) != 0 || e != api.ErrDown {
			t.Fatalf("Read(%q) of a disk that is down: %q, %d, expected ErrDown", name, b, e)
		}
	}
}

// differing returns the numbers of the blocks that differ.
func differing(a, b string) []int {
	if len(a) != len(b) {
		return []int{-1}
	}
	var list []int
	for at := 0; at < len(a); at += size {
		if a[at:at+size] != b[at:at+size] {
			list = append(list, at/size)
		}
	}
	return list
}

func format(t *testing.T, seed uint64, cells int) *disk.Disk {
	t.Helper()
	d, e := disk.Format(seed, cells)
	if e != api.OK || d == nil {
		t.Fatalf("Format(%d, %d): %d", seed, cells, e)
	}
	return d
}

func commit(t *testing.T, d *disk.Disk, changes ...api.Change) {
	t.Helper()
	if e := d.Commit(changes, -1, 0); e != api.OK {
		t.Fatalf("Commit of %d changes: %d", len(changes), e)
	}
}

func mount(t *testing.T, seed uint64, b string) *disk.Disk {
	t.Helper()
	d, e := disk.Mount(seed, []byte(b), -1, 0)
	if e != api.OK || d == nil {
		t.Fatalf("Mount: %d", e)
	}
	return d
}

// refused checks that bytes are not mounted.
func refused(t *testing.T, seed uint64, what, b string) {
	t.Helper()
	given := []byte(b)
	if d, e := disk.Mount(seed, given, -1, 0); d != nil || e != api.ErrForm {
		t.Errorf("Mount of %s: %d, expected ErrForm", what, e)
	}
	if string(given) != b {
		t.Errorf("Mount of %s modified the bytes", what)
	}
}

func put(name, data string) api.Change { return api.Change{Name: name, Data: []byte(data)} }

func gone(name string) api.Change { return api.Change{Name: name, Gone: true} }

// into returns the changes that make some files out of others, in the order of names.
func (p plain) into(other plain) []api.Change {
	var changes []api.Change
	for _, name := range p.names() {
		if _, there := other[name]; !there {
			changes = append(changes, gone(name))
		}
	}
	for _, name := range other.names() {
		changes = append(changes, put(name, other[name]))
	}
	return changes
}

// diskOf returns a disk to which files were written in one commit.
func (p plain) diskOf(t *testing.T, seed uint64, cells int) *disk.Disk {
	t.Helper()
	d := format(t, seed, cells)
	commit(t, d, plain{}.into(p)...)
	return d
}

func anyData(r *rand.Rand, size int) string {
	b := make([]byte, size)
	r.Read(b)
	return string(b)
}

const letters = "abcdefghijklmnopqrstuvwxyz0123456789-."

func anyName(r *rand.Rand) string {
	b := make([]byte, 1+r.Intn(16))
	for i := range b {
		b[i] = letters[r.Intn(len(letters))]
	}
	return string(b)
}

// anyFiles returns files that have at most so many pieces.
func anyFiles(r *rand.Rand, most int) plain {
	files := plain{}
	for range r.Intn(6) {
		name, data := anyName(r), anyData(r, r.Intn(120))
		old, there := files[name]
		files[name] = data
		if len(files.pieces()) <= most {
			continue
		}
		if there {
			files[name] = old
		} else {
			delete(files, name)
		}
	}
	return files
}

// spoil writes over all bytes of some slices, as far as their memory reaches.
func spoil(slices ...[]byte) {
	for _, s := range slices {
		s = s[:cap(s)]
		for i := range s {
			s[i] ^= 0xA5
		}
	}
}

// unhex returns the bytes that hexadecimal digits tell, behind which zeros fill a block.
func unhex(t *testing.T, digits string) string {
	t.Helper()
	const hex = "0123456789abcdef"
	var b bytes.Buffer
	for i := 0; i < len(digits); i += 2 {
		b.WriteByte(byte(strings.IndexByte(hex, digits[i])<<4 + strings.IndexByte(hex, digits[i+1])))
	}
	return filled(b.String(), size)
}

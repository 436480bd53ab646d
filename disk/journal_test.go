package disk_test

import (
	"math"
	"math/rand"
	"slices"
	"strconv"
	"strings"
	"testing"

	"amnesty/api"
	"amnesty/disk"
)

// Files of which the power fails while one becomes another one: cells change, come and go, cell 0 among them.
var roads = []struct {
	seed     uint64
	cells    int
	from, to plain
}{
	{1, 8, plain{"a": strings.Repeat("\x07", 33)}, plain{}},
	{1, 8, plain{}, plain{"a": strings.Repeat("\x07", 33)}},
	{1, 8, plain{"a": "one", "b": "two"}, plain{"a": "three", "c": ""}},
	{2, 9, plain{"a": strings.Repeat("x", 192)}, plain{"b": strings.Repeat("y", 192)}},
	{3, 11, plain{"a": "1", "b": "2", "c": "3"}, plain{"a": "1", "b": "3", "c": "3"}},
	{4, 8, plain{"a": "", "b": "", "c": ""}, plain{"d": "", "b": "", "e": ""}},
}

// TestP3_5Cell0: the number of cell 0 is zeros, which are written all the same; so cell 0 has to change on some road.
func TestP3_5Cell0(t *testing.T) {
	for _, x := range roads {
		if w := commitWrites(x.seed, x.cells, x.from, x.to); w[0].to == zeros {
			return
		}
	}
	t.Errorf("cell 0 changes on no road: the tests show little")
}

// TestP3_5Journal: the expected coins of the entries were worked out apart from this program.
func TestP3_5Journal(t *testing.T) {
	from, to := plain{"a": strings.Repeat("\x07", 33)}, plain{}
	for _, x := range []struct {
		from, to plain
		header   string
	}{{from, to, "02000000822a62d84d6f746c01"}, {to, from, "02000000fe7b8e06c475f9bf01"}} {
		d := x.from.diskOf(t, 1, 8)
		if e := d.Commit(x.from.into(x.to), 5, 0); e != api.ErrDown || d.Writes() != 5 {
			t.Fatalf("Commit: %d, %d writes, expected ErrDown, 5", e, d.Writes())
		}
		cells := x.to.cells(1, 8)
		three, six := filled("\x03", size), filled("\x06", size)
		want := unhex(t, x.header) + three + cells[3] + six + cells[6] + strings.Repeat(zeros, 12) + strings.Join(x.from.cells(1, 8), "")
		if got := string(d.Bytes()); got != want {
			t.Errorf("the journal differs in the blocks %v", differing(got, want))
		}
	}
}

// TestP3_5EveryWrite lets the power fail at each write, with each number of bytes of it.
func TestP3_5EveryWrite(t *testing.T) {
	for _, x := range roads {
		old := x.from.bytes(x.seed, x.cells)
		writes := commitWrites(x.seed, x.cells, x.from, x.to)
		for power := range writes {
			for torn := -1; torn <= 65; torn++ {
				d := mount(t, x.seed, old)
				if e := d.Commit(x.from.into(x.to), power, torn); e != api.ErrDown {
					t.Fatalf("Commit with power %d, torn %d: %d, expected ErrDown", power, torn, e)
				}
				checkDown(t, d, made(old, writes, power, torn))
			}
		}
	}
}

// TestP3_5Enough: power that is just enough, or more, or without an end.
func TestP3_5Enough(t *testing.T) {
	for _, x := range roads {
		n := len(commitWrites(x.seed, x.cells, x.from, x.to))
		for _, power := range []int{n, n + 1, math.MaxInt, -1, -2, math.MinInt} {
			d := x.from.diskOf(t, x.seed, x.cells)
			if e := d.Commit(x.from.into(x.to), power, 5); e != api.OK || d.Writes() != n || n%5 != 2 {
				t.Errorf("Commit with power %d: %d, %d writes, expected %d", power, e, d.Writes(), n)
			}
			x.to.check(t, x.seed, x.cells, d)
		}
	}
}

// TestP3_5NothingChanges: then nothing is written, and no power is needed.
func TestP3_5NothingChanges(t *testing.T) {
	files := plain{"a": strings.Repeat("\x07", 33), "b": ""}
	for _, changes := range [][]api.Change{nil, {}, {put("b", "")}, {{Name: "b"}}, {put("b", ""), put("a", files["a"])}} {
		for _, power := range []int{-1, 0, 1, 100} {
			d := files.diskOf(t, 1, 8)
			if e := d.Commit(changes, power, 64); e != api.OK || d.Writes() != 0 {
				t.Errorf("Commit that changes nothing, power %d: %d, %d writes", power, e, d.Writes())
			}
			files.check(t, 1, 8, d)
		}
	}
}

// TestP3_5ManyCells: as many cells as there are change at once.
func TestP3_5ManyCells(t *testing.T) {
	r := rand.New(rand.NewSource(35))
	for _, cells := range []int{8, 100, 1024} {
		from, to := fullOf(r, cells), fullOf(r, cells)
		old := from.bytes(9, cells)
		writes := commitWrites(9, cells, from, to)
		n := len(writes)
		for _, power := range []int{0, 1, n / 5, 2 * n / 5, 2*n/5 + 1, n / 2, 3 * n / 5, 4 * n / 5, n - 1, n} {
			d := mount(t, 9, old)
			e := d.Commit(from.into(to), power, 20)
			want := made(old, writes, power, 20)
			if got := string(d.Bytes()); got != want.bytes || d.Writes() != want.made || want.down != (e == api.ErrDown) {
				t.Errorf("%d cells, power %d: %d, %d writes, expected %d; blocks %v", cells, power, e, d.Writes(), want.made, differing(got, want.bytes))
			}
		}
	}
}

func TestP3_7TornOutOfItsRange(t *testing.T) {
	from, to := plain{"a": "1"}, plain{"a": "2"}
	old := from.bytes(1, 8)
	writes := commitWrites(1, 8, from, to)
	for power := range writes {
		for torn, same := range map[int]int{math.MinInt: 0, -64: 0, -1: 0, 65: 64, 1000: 64, math.MaxInt: 64} {
			d := mount(t, 1, old)
			if e := d.Commit(from.into(to), power, torn); e != api.ErrDown {
				t.Fatalf("Commit with power %d, torn %d: %d, expected ErrDown", power, torn, e)
			}
			checkDown(t, d, made(old, writes, power, same))
		}
	}
	// What a mount of the journal writes, the header and all blocks of entries, fails in the same way.
	d := mount(t, 1, old)
	d.Commit(from.into(to), 4, 0)
	broken := string(d.Bytes())
	for torn, same := range map[int]int{math.MinInt: 0, -1: 0, 65: 64, math.MaxInt: 64} {
		m, e := disk.Mount(1, []byte(broken), 1, torn)
		if e != api.ErrDown || m == nil {
			t.Fatalf("Mount with power 1, torn %d: %d, expected ErrDown", torn, e)
		}
		checkDown(t, m, made(broken, repairWrites(1, broken), 1, same))
	}
}

// journal is what lies in the journal of a disk: a header, entries, and blocks of no entry.
type journal struct {
	header  string
	entries []entry
	noise   map[int]string
}

// over returns the bytes of a disk that has the journal ahead of its cells.
func (j journal) over(cells []string) string {
	blocks := slices.Repeat([]string{zeros}, 1+2*len(cells))
	for k, e := range j.entries {
		blocks[1+2*k], blocks[2+2*k] = e.first, e.second
	}
	for at, b := range j.noise {
		blocks[at] = b
	}
	blocks[0] = j.header
	return strings.Join(blocks, "") + strings.Join(cells, "")
}

// repaired mounts bytes with each power, checks each result, and returns the disk; none if the bytes behind the repair are not those of files.
func repaired(t *testing.T, seed uint64, b string) *disk.Disk {
	t.Helper()
	writes := repairWrites(seed, b)
	given := []byte(b)
	for power := range writes {
		for _, torn := range []int{0, 1, 4, 12, 13, 30, 63, 64} {
			d, e := disk.Mount(seed, given, power, torn)
			if e != api.ErrDown || d == nil {
				t.Fatalf("Mount with power %d of %d writes: %d, expected ErrDown", power, len(writes), e)
			}
			checkDown(t, d, made(b, writes, power, torn))
		}
	}
	var last *disk.Disk
	for _, power := range []int{len(writes) + 1, len(writes), -1} {
		d, e := disk.Mount(seed, given, power, 7)
		if (d == nil) != (e == api.ErrForm) || d != nil && e != api.OK {
			t.Fatalf("Mount with power %d of %d writes: %d", power, len(writes), e)
		}
		last = d
	}
	if string(given) != b {
		t.Fatalf("Mount modified the bytes")
	}
	if want := made(b, writes, -1, 0); last != nil && (string(last.Bytes()) != want.bytes || last.Writes() != want.made) {
		t.Fatalf("Mount: %d writes, expected %d; blocks %v", last.Writes(), want.made, differing(string(last.Bytes()), want.bytes))
	}
	return last
}

// From and to are two contents of a disk with 9 cells and the seed 6, with which the journals below are made.
var (
	journalFrom = plain{"a": strings.Repeat("old", 20), "b": "b"}
	journalTo   = plain{"a": strings.Repeat("new", 25), "c": ""}
)

const (
	journalSeed  = 6
	journalCells = 9
)

// entriesOf returns the entries for the cells that are not the same.
func entriesOf(from, to []string) []entry {
	var entries []entry
	for c := range from {
		if from[c] != to[c] {
			entries = append(entries, entryFor(c, to[c]))
		}
	}
	return entries
}

func TestP3_6ValidHeader(t *testing.T) {
	from, to := journalFrom.cells(journalSeed, journalCells), journalTo.cells(journalSeed, journalCells)
	entries := entriesOf(from, to)
	var all []entry
	for c := range to {
		all = append(all, entryFor(c, to[c]))
	}
	back := slices.Clone(entries)
	slices.Reverse(back)
	for what, list := range map[string][]entry{
		"the entries of the cells that change": entries,
		"the same entries, the last one first": back,
		"the same entries twice":               slices.Concat(entries, entries)[:journalCells],
		"entries of all cells":                 all,
		"a cell that gets other bytes first":   append([]entry{{entries[0].first, strings.Repeat("?", size)}}, entries...),
	} {
		j := journal{header: headerFor(journalSeed, list), entries: list}
		d := repaired(t, journalSeed, j.over(from))
		if d == nil {
			t.Fatalf("%s: refused", what)
		}
		journalTo.check(t, journalSeed, journalCells, d)
	}
}

// TestP3_6EntriesInOrder: of two entries of one cell the later one stays; both are writes, if they change something then.
func TestP3_6EntriesInOrder(t *testing.T) {
	cells := journalFrom.cells(journalSeed, journalCells)
	other := strings.Repeat("!", size)
	for _, x := range []struct {
		contents []string
		writes   int
	}{{[]string{cells[5]}, 0}, {[]string{other, cells[5]}, 2}, {[]string{cells[5], cells[5]}, 0}, {[]string{other, other, cells[5]}, 2}, {[]string{other, cells[5], other, cells[5]}, 4}} {
		var entries []entry
		wipes := 1
		for _, to := range x.contents {
			entries = append(entries, entryFor(5, to))
			wipes++
			if to != zeros {
				wipes++
			}
		}
		j := journal{header: headerFor(journalSeed, entries), entries: entries}
		d := repaired(t, journalSeed, j.over(cells))
		if d == nil || d.Writes() != x.writes+wipes {
			t.Fatalf("%d entries of one cell: %d writes, expected %d", len(entries), d.Writes(), x.writes+wipes)
		}
		journalFrom.check(t, journalSeed, journalCells, d)
	}
	entries := []entry{entryFor(5, cells[5]), entryFor(5, other)}
	if d := repaired(t, journalSeed, journal{headerFor(journalSeed, entries), entries, nil}.over(cells)); d != nil {
		t.Errorf("a cell that gets other bytes at last is mounted")
	}
}

// with returns a block with one byte that differs.
func with(b string, at int, c byte) string { return b[:at] + string([]byte{c}) + b[at+1:] }

// TestP3_6HeadersThatAreNotValid: the cells stay as they are, and the journal goes.
func TestP3_6HeadersThatAreNotValid(t *testing.T) {
	from, to := journalFrom.cells(journalSeed, journalCells), journalTo.cells(journalSeed, journalCells)
	entries := entriesOf(from, to)
	good := headerFor(journalSeed, entries)
	headers := map[string]string{
		"zeros":                zeros,
		"ones":                 strings.Repeat("\xff", size),
		"another seed's":       headerFor(journalSeed+1, entries),
		"that of less entries": headerFor(journalSeed, entries[:1])[:4] + good[4:],
		"that of no entries":   headerFor(journalSeed, nil),
		"one entry too many":   little(uint64(len(entries)+1), 4) + good[4:],
		"no entries":           little(0, 4) + good[4:],
		"2^8 more entries":     with(good, 1, 1),
		"2^16 more entries":    with(good, 2, 1),
		"2^24 more entries":    with(good, 3, 1),
		"2^31 more entries":    with(good, 3, 128),
		"marked with 0":        with(good, 12, 0),
		"marked with 2":        with(good, 12, 2),
		"marked with 3":        with(good, 12, 3),
		"marked with 129":      with(good, 12, 129),
		"marked with 255":      with(good, 12, 255),
		"torn":                 good[:12] + zeros[12:],
	}
	for at := 4; at < 12; at++ {
		headers["another coin, at "+little(uint64('0'+at), 1)] = with(good, at, good[at]^byte(1<<(at%8)))
	}
	for at := 13; at < size; at++ {
		headers["more behind the mark, at "+little(uint64(at), 1)] = with(good, at, byte(1<<(at%8)))
	}
	for what, header := range headers {
		d := repaired(t, journalSeed, journal{header, entries, nil}.over(from))
		if d == nil {
			t.Fatalf("a header that is not valid (%s): refused", what)
		}
		if files := d.Files(); len(files) != 2 || files[1].Name != "b" {
			t.Fatalf("a header that is not valid (%s) is taken as valid", what)
		}
		journalFrom.check(t, journalSeed, journalCells, d)
	}
	journalTo.check(t, journalSeed, journalCells, repaired(t, journalSeed, journal{good, entries, nil}.over(from)))
}

// TestP3_6EntriesThatAreNotValid: the coin of the header is right, but one of the entries is of no cell.
func TestP3_6EntriesThatAreNotValid(t *testing.T) {
	from, to := journalFrom.cells(journalSeed, journalCells), journalTo.cells(journalSeed, journalCells)
	firsts := []string{
		filled(little(journalCells, 4), size), filled(little(journalCells+1, 4), size), filled("\xff", size), filled("\xff\xff\xff\xff", size),
		filled("\x00\x01", size), filled("\x00\x00\x01", size), filled("\x00\x00\x00\x01", size), filled("\x00\x00\x00\x80", size), strings.Repeat("\xff", size),
	}
	for at := 4; at < size; at++ {
		firsts = append(firsts, with(filled("\x02", size), at, byte(1<<(at%8))))
	}
	for _, first := range firsts {
		good := entriesOf(from, to)
		for k := range good {
			entries := slices.Clone(good)
			entries[k].first = first
			d := repaired(t, journalSeed, journal{headerFor(journalSeed, entries), entries, nil}.over(from))
			if d == nil {
				t.Fatalf("entry %d of %d has %x: refused", k, len(entries), first)
			}
			journalFrom.check(t, journalSeed, journalCells, d)
		}
	}
	// An entry behind those that the header counts may be anything.
	entries := entriesOf(from, to)
	noise := journal{headerFor(journalSeed, entries), entries, map[int]string{1 + 2*len(entries): strings.Repeat("\xff", size), 2 * journalCells: filled("x", size)}}
	journalTo.check(t, journalSeed, journalCells, repaired(t, journalSeed, noise.over(from)))
}

// TestP3_6TooManyEntries: C entries are valid, and C + 1 are not, though the first two cells are what the last one could be.
func TestP3_6TooManyEntries(t *testing.T) {
	const seed, cells = 4, 8
	files := plain{"a": "1"}
	for n := 0; files.cells(seed, cells)[0] != zeros || files.cells(seed, cells)[1] == zeros; n++ {
		files = plain{"n" + strconv.Itoa(n): "1"}
	}
	list := files.cells(seed, cells)
	full := slices.Repeat([]entry{entryFor(3, list[3])}, cells)
	for _, counted := range [][]entry{full, append(slices.Clone(full), entry{list[0], list[1]})} {
		files.check(t, seed, cells, repaired(t, seed, journal{headerFor(seed, counted), full, nil}.over(list)))
	}
	// All C entries are used, the last one, too.
	full[cells-1] = entryFor(1, zeros)
	plain{}.check(t, seed, cells, repaired(t, seed, journal{headerFor(seed, full), full, nil}.over(list)))
}

// TestP3_6Noise: whatever lies in the journal is wiped, and each block of it is a write only if it is not all zeros.
func TestP3_6Noise(t *testing.T) {
	cells := journalFrom.cells(journalSeed, journalCells)
	for at := range 1 + 2*journalCells {
		for _, i := range []int{0, 12, 63} {
			j := journal{header: zeros, noise: map[int]string{at: with(zeros, i, 1)}}
			if at == 0 {
				j = journal{header: with(zeros, i, 1)}
			}
			d := repaired(t, journalSeed, j.over(cells))
			if d == nil || d.Writes() != 1 {
				t.Fatalf("a byte in block %d: not one write", at)
			}
			journalFrom.check(t, journalSeed, journalCells, d)
		}
	}
	r := rand.New(rand.NewSource(36))
	for range 200 {
		j := journal{header: zeros, noise: map[int]string{}}
		for range r.Intn(12) {
			j.noise[1+r.Intn(2*journalCells)] = anyData(r, size)
		}
		if r.Intn(2) == 0 {
			j.header = anyData(r, size)
		}
		journalFrom.check(t, journalSeed, journalCells, repaired(t, journalSeed, j.over(cells)))
	}
}

// TestP3_6Journals: journals of entries that are right or not, in part for the same cells, under headers that are valid or not, each with every power.
func TestP3_6Journals(t *testing.T) {
	r := rand.New(rand.NewSource(37))
	mounted, taken := 0, 0
	for range 1500 {
		from, to := journalFrom.cells(journalSeed, journalCells), journalTo.cells(journalSeed, journalCells)
		for c := range from {
			if r.Intn(3) == 0 {
				from[c] = to[c]
			}
		}
		var entries []entry
		for range r.Intn(journalCells + 1) {
			c := r.Intn(journalCells)
			entries = append(entries, entryFor(c, to[c]))
			if r.Intn(20) == 0 {
				entries[len(entries)-1] = entryFor(c+r.Intn(2)*journalCells, from[c])
			}
		}
		counted := entries[:r.Intn(len(entries)+1)]
		b := journal{headerFor(journalSeed, counted), entries, nil}.over(from)
		if len(validEntries(journalSeed, blocksOf(b))) > 0 {
			taken++
		}
		if repaired(t, journalSeed, b) != nil {
			mounted++
		}
	}
	if mounted < 50 || taken < 500 {
		t.Errorf("%d of the journals are mounted, %d have a valid header: the test shows little", mounted, taken)
	}
}

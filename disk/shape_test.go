package disk_test

import (
	"math/rand"
	"slices"
	"strconv"
	"strings"
	"testing"

	"amnesty/api"
	"amnesty/disk"
)

// Two pairs of names whose pieces of one number have one rank with twinSeed.
const (
	twinSeed            = 7
	twinLow, twinHigh   = "doijfmbaanngkgpi", "ophjnfliodigjnhb"
	otherLow, otherHigh = "aekcpompdlnpaone", "fjgpecnjbapoccia"
)

// TestP3_2Cells: the expected cells were worked out apart from this program, with whole numbers modulo 2^64.
func TestP3_2Cells(t *testing.T) {
	sevens := strings.Repeat("\x07", 33)
	first := "0101200000006100000000000000000000000000000007070707070707070707070707070707070707070707070707070707070707077944e47b377f963a"
	second := "0101010101006100000000000000000000000000000007000000000000000000000000000000000000000000000000000000000000" + "00ac3f63194dd21657"
	for _, x := range []struct {
		seed  uint64
		cells int
		files plain
		want  map[int]string
	}{
		{1, 8, plain{"a": sevens}, map[int]string{3: first, 6: second}},
		{1, 8, plain{"a": sevens, "b-.9": "", "sixteen-letters.": string(upFrom(1, 32))}, map[int]string{
			2: "010400010000622d2e390000000000000000000000000000000000000000000000000000000000000000000000000000000000000000a85c49214ff73c4a",
			3: first,
			6: "0110200100007369787465656e2d6c6574746572732e0102030405060708090a0b0c0d0e0f101112131415161718191a1b1c1d1e1f20128a9a6c88a60f09",
			7: second,
		}},
		{1<<64 - 1, 9, plain{"z": string(upFrom(200, 40)), "a": "x"}, map[int]string{
			3: "0101080101007a000000000000000000000000000000e8e9eaebecedeeef00000000000000000000000000000000000000000000000007d7211d0d86451f",
			7: "01010101000061000000000000000000000000000000780000000000000000000000000000000000000000000000000000000000000055c081cbd23501ad",
			8: "0101200000007a000000000000000000000000000000c8c9cacbcccdcecfd0d1d2d3d4d5d6d7d8d9dadbdcdddedfe0e1e2e3e4e5e6e7c7495d6506f41bed",
		}},
	} {
		b := x.files.diskOf(t, x.seed, x.cells).Bytes()
		if len(b) != 64+192*x.cells {
			t.Fatalf("%d cells: %d bytes", x.cells, len(b))
		}
		for c := range x.cells {
			at := 64 * (1 + 2*x.cells + c)
			if want := unhex(t, x.want[c]); string(b[at:at+64]) != want {
				t.Errorf("cell %d of %q is\n%x, expected\n%x", c, x.files, b[at:at+64], want)
			}
		}
	}
}

// upFrom returns bytes that go up from one on.
func upFrom(first byte, n int) []byte {
	var b []byte
	for i := range n {
		b = append(b, first+byte(i))
	}
	return b
}

// TestP3_1Blocks: every allowed number of cells has its own number of blocks, and a disk of it is mounted.
func TestP3_1Blocks(t *testing.T) {
	for cells := 8; cells <= 1024; cells++ {
		d := format(t, 3, cells)
		b := string(d.Bytes())
		if b != strings.Repeat(zeros, 1+3*cells) {
			t.Fatalf("%d cells: %d bytes, expected %d blocks of zeros", cells, len(b), 1+3*cells)
		}
		plain{}.check(t, 3, cells, mount(t, 3, b))
	}
}

// TestP3_2PiecesOfEveryLength: data of each length up to a few pieces, and of the greatest ones.
func TestP3_2PiecesOfEveryLength(t *testing.T) {
	r := rand.New(rand.NewSource(32))
	lengths := []int{1983, 1984, 1985, 1999, 2000}
	for n := range 130 {
		lengths = append(lengths, n)
	}
	for _, n := range lengths {
		const cells = 90
		files := plain{"f": anyData(r, n)}
		d := files.diskOf(t, 5, cells)
		files.check(t, 5, cells, d)
		if want := max(1, (n+31)/32); d.Free() != 67-want {
			t.Errorf("%d bytes: %d pieces, expected %d", n, 67-d.Free(), want)
		}
	}
}

// TestP3_2DataIsKeptAsItIs: bytes of zeros too, at the end of a piece and in all of one.
func TestP3_2DataIsKeptAsItIs(t *testing.T) {
	for _, n := range []int{1, 31, 32, 33, 64, 65} {
		for _, c := range []string{"\x00", "\x01", "\xff"} {
			files := plain{"f": strings.Repeat(c, n), "0": ""}
			files.check(t, 5, 9, files.diskOf(t, 5, 9))
		}
	}
}

func TestP3_3Layouts(t *testing.T) {
	r := rand.New(rand.NewSource(33))
	for range 400 {
		seed, cells := r.Uint64(), 8+r.Intn(40)
		files := anyFiles(r, room(cells))
		files.check(t, seed, cells, files.diskOf(t, seed, cells))
	}
	for _, cells := range []int{8, 9, 10, 11, 1000, 1023, 1024} {
		for seed := range uint64(3) {
			files := fullOf(r, cells)
			files.check(t, seed, cells, files.diskOf(t, seed, cells))
		}
	}
}

// fullOf returns files for which there is just room.
func fullOf(r *rand.Rand, cells int) plain {
	files := plain{}
	for left := room(cells); left > 0; {
		n := 1 + r.Intn(min(left, 62))
		name := anyName(r)
		if _, there := files[name]; !there {
			files[name] = anyData(r, 32*n-r.Intn(32))
			left -= n
		}
	}
	return files
}

func TestP3_3Room(t *testing.T) {
	for cells, want := range map[int]int{8: 6, 9: 6, 10: 7, 11: 8, 12: 9, 13: 9, 1022: 766, 1023: 767, 1024: 768} {
		d := format(t, 1, cells)
		if got := d.Free(); got != want {
			t.Errorf("%d cells have room for %d pieces, expected %d", cells, got, want)
		}
		var changes []api.Change
		for i := range want {
			changes = append(changes, put("n"+strconv.Itoa(i), ""))
		}
		if e := d.Commit(append(changes, put("more", "")), -1, 0); e != api.ErrFull || d.Free() != want {
			t.Errorf("%d pieces in %d cells: %d, expected ErrFull", want+1, cells, e)
		}
		commit(t, d, changes...)
		if d.Free() != 0 {
			t.Errorf("%d pieces in %d cells: room for %d more", want, cells, d.Free())
		}
		if e := d.Commit([]api.Change{put("more", "")}, -1, 0); e != api.ErrFull {
			t.Errorf("a piece more in %d cells: %d, expected ErrFull", cells, e)
		}
	}
}

// TestP3_3EqualRanks: of pieces that have one rank, the one whose name is less comes first.
func TestP3_3EqualRanks(t *testing.T) {
	telling := 0
	for each := 1; each <= 12; each++ {
		data := strings.Repeat("x", 32*each)
		files := plain{twinLow: data, twinHigh: data, otherLow: data, otherHigh: data}
		for more := 3; more < 10; more++ {
			if equalRanksTell(t, files, 4*(4*each)/3+more) {
				telling++
			}
		}
	}
	if telling < 20 {
		t.Errorf("%d disks on which the order of equal ranks shows: the test shows little", telling)
	}
}

// equalRanksTell checks the disk of files of which each piece has a twin, and reports whether their order shows.
func equalRanksTell(t *testing.T, files plain, cells int) bool {
	t.Helper()
	pieces := ranked(twinSeed, files.pieces())
	files.check(t, twinSeed, cells, files.diskOf(t, twinSeed, cells))
	for i := 0; i < len(pieces); i += 2 {
		if coinOf(twinSeed, 2, pieces[i].key()) != coinOf(twinSeed, 2, pieces[i+1].key()) {
			t.Fatalf("%q and %q are no twins", pieces[i].key(), pieces[i+1].key())
		}
		pieces[i], pieces[i+1] = pieces[i+1], pieces[i]
	}
	other := atRest(lay(twinSeed, cells, pieces))
	if other == files.bytes(twinSeed, cells) {
		return false
	}
	refused(t, twinSeed, "pieces of one rank in the other order", other)
	return true
}

// TestP3_4AtRest: behind a commit, and behind a mount that had the journal to wipe, the journal is all zeros, and the bytes tell of the files alone.
func TestP3_4AtRest(t *testing.T) {
	const seed, cells = 4, 10
	ahead := strings.Repeat(zeros, 1+2*cells)
	files := plain{"a": strings.Repeat("a", 70), "b": "", "c": "c"}
	d := format(t, seed, cells)
	for _, name := range files.names() {
		commit(t, d, put(name, "trace"), put("x", "trace"))
		commit(t, d, put(name, files[name]), gone("x"))
		if b := string(d.Bytes()); b[:len(ahead)] != ahead || strings.Contains(b, "trace") {
			t.Errorf("behind a commit of %q the bytes are not those at rest", name)
		}
	}
	want := files.bytes(seed, cells)
	if string(d.Bytes()) != want {
		t.Errorf("the bytes at rest are not those of the files")
	}
	if e := d.Commit([]api.Change{put("b", "trace")}, 3, 13); e != api.ErrDown {
		t.Fatalf("Commit with power 3: %d, expected ErrDown", e)
	}
	if b := string(d.Bytes()); b[:len(ahead)] == ahead || b[len(ahead):] == want[len(ahead):] {
		t.Errorf("a commit that failed behind its first changed cell left the disk at rest")
	}
	m := mount(t, seed, string(d.Bytes()))
	files["b"] = "trace"
	if string(m.Bytes()) != ahead+files.bytes(seed, cells)[len(ahead):] {
		t.Errorf("behind a mount the bytes are not those at rest")
	}
}

// anyChanges returns changes of some files, and the files behind them.
func anyChanges(r *rand.Rand, files plain) ([]api.Change, plain) {
	after := plain{}
	var changes []api.Change
	for _, name := range files.names() {
		switch r.Intn(4) {
		case 0:
			changes = append(changes, gone(name))
			continue
		case 1:
			after[name] = anyData(r, r.Intn(100))
			changes = append(changes, put(name, after[name]))
			continue
		}
		after[name] = files[name]
	}
	for range r.Intn(3) {
		name := string(rune('a'+r.Intn(8))) + "." + strconv.Itoa(r.Intn(2))
		_, there := files[name]
		_, changed := after[name]
		if !there && !changed {
			after[name] = anyData(r, r.Intn(100))
			changes = append(changes, put(name, after[name]))
		}
	}
	r.Shuffle(len(changes), func(i, j int) { changes[i], changes[j] = changes[j], changes[i] })
	return changes, after
}

// TestT3NoTrace: histories of commits, of which some lose the power, and of mounts. Behind each that ends well the bytes are the plain bytes of files that a plain list has.
func TestT3NoTrace(t *testing.T) {
	for source := range int64(60) {
		r := rand.New(rand.NewSource(source))
		seed, cells := r.Uint64(), 8+r.Intn(30)
		d, files := format(t, seed, cells), plain{}
		failures := 0
		for range 60 {
			changes, after := anyChanges(r, files)
			if len(after.pieces()) > room(cells) {
				if e := d.Commit(changes, r.Intn(9)-1, 0); e != api.ErrFull {
					t.Fatalf("Commit of too many pieces: %d, expected ErrFull", e)
				}
				files.check(t, seed, cells, d)
				continue
			}
			switch e := d.Commit(changes, r.Intn(60)-20, r.Intn(70)-2); e {
			case api.OK:
				files = after
			case api.ErrDown:
				failures++
				d, files = survive(t, r, seed, cells, d, files, after)
			default:
				t.Fatalf("Commit of %d changes: %d", len(changes), e)
			}
			files.check(t, seed, cells, d)
			if got, want := string(d.Bytes()), string(files.diskOf(t, seed, cells).Bytes()); got != want {
				t.Fatalf("a disk has other bytes than one to which its files were written in one commit")
			}
		}
		if failures < 2 {
			t.Errorf("the power failed %d times: the test shows little", failures)
		}
	}
}

// survive mounts a disk that is down, with more failures, and returns it with its files, which are those ahead of the commit or those behind it.
func survive(t *testing.T, r *rand.Rand, seed uint64, cells int, d *disk.Disk, before, after plain) (*disk.Disk, plain) {
	t.Helper()
	made, bytes := d.Writes(), d.Bytes()
	for e := api.ErrDown; e == api.ErrDown; {
		d, e = disk.Mount(seed, bytes, r.Intn(12)-2, r.Intn(70)-2)
		if d == nil {
			t.Fatalf("Mount behind a failure: %d", e)
		}
		bytes = d.Bytes()
	}
	entries := (len(commitWrites(seed, cells, before, after)) - 2) / 5
	switch string(d.Bytes()) {
	case before.bytes(seed, cells):
		if made > 2*entries {
			t.Fatalf("%d entries and %d writes, and the commit never began", entries, made)
		}
		return d, before
	case after.bytes(seed, cells):
		if made < 2*entries {
			t.Fatalf("%d entries and %d writes, and the commit is made", entries, made)
		}
		return d, after
	}
	t.Fatalf("the files are neither those ahead of the commit nor those behind it")
	return nil, nil
}

// TestT3AllRoads: files that are written in each order, with others in between that go again, leave the same bytes.
func TestT3AllRoads(t *testing.T) {
	const seed, cells = 11, 16
	files := plain{"a": "one", "b": strings.Repeat("two", 20), "c": "", "d": strings.Repeat("4", 65)}
	want := files.bytes(seed, cells)
	names := files.names()
	for i := range 24 {
		order := slices.Clone(names)
		for at, n := 3, i; at > 0; at-- {
			j := n % (at + 1)
			n /= at + 1
			order[at], order[j] = order[j], order[at]
		}
		d := format(t, seed, cells)
		for _, name := range order {
			commit(t, d, put("x", strings.Repeat("trace", 10)), put("y", name))
			commit(t, d, put(name, files[name]), gone("x"))
			commit(t, d, gone("y"))
		}
		if string(d.Bytes()) != want {
			t.Errorf("the files %q, written in this order, leave other bytes", order)
		}
	}
}

// TestT2PlainAnswers: P3.11's questions, put to a disk of few files behind each of many commits, are those of check.
func TestT2PlainAnswers(t *testing.T) {
	r := rand.New(rand.NewSource(2))
	d, files := format(t, 2, 200), plain{}
	for range 300 {
		changes, after := anyChanges(r, files)
		if len(after.pieces()) <= room(200) {
			commit(t, d, changes...)
			files = after
			files.check(t, 2, 200, d)
		}
	}
}

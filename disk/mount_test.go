package disk_test

import (
	"math"
	"math/rand"
	"slices"
	"strconv"
	"strings"
	"testing"

	"amnesty/api"
	"amnesty/disk"
)

func TestP3_10Lengths(t *testing.T) {
	allowed := map[int]bool{}
	for cells := 8; cells <= 1024; cells++ {
		allowed[64+192*cells] = true
	}
	lengths := []int{64 + 192*1025, 64 + 192*1024 + 64, 64 + 192*1024 + 128, 1 << 20}
	for n := range allowed {
		lengths = append(lengths, n, n-1, n+1, n-64, n+64)
	}
	for n := range 2000 {
		lengths = append(lengths, n)
	}
	for _, n := range lengths {
		d, e := disk.Mount(1, make([]byte, n), -1, 0)
		if allowed[n] != (d != nil) || allowed[n] != (e == api.OK) || !allowed[n] && e != api.ErrForm {
			t.Fatalf("Mount of %d bytes: %d", n, e)
		}
	}
	// A length that is none is refused ahead of any write.
	if d, e := disk.Mount(1, slices.Repeat([]byte{1}, 1601), 0, 0); d != nil || e != api.ErrForm {
		t.Errorf("Mount of 1601 bytes with power 0: %d, expected ErrForm", e)
	}
	if d, e := disk.Mount(1, nil, 0, 0); d != nil || e != api.ErrForm {
		t.Errorf("Mount of no bytes: %d, expected ErrForm", e)
	}
}

// TestP3_10PlainBytes: what was written is mounted, without a write, and goes on as the disk that it was.
func TestP3_10PlainBytes(t *testing.T) {
	r := rand.New(rand.NewSource(310))
	for range 200 {
		seed, cells := r.Uint64(), 8+r.Intn(40)
		files := anyFiles(r, room(cells))
		for _, power := range []int{-1, 0, 1, math.MinInt, math.MaxInt} {
			d, e := disk.Mount(seed, []byte(files.bytes(seed, cells)), power, 64)
			if e != api.OK || d.Writes() != 0 {
				t.Fatalf("Mount of plain bytes with power %d: %d", power, e)
			}
			files.check(t, seed, cells, d)
			after := anyFiles(r, room(cells))
			commit(t, d, files.into(after)...)
			after.check(t, seed, cells, d)
		}
	}
}

// TestP3_10OtherSeeds: bytes with a file are not those of a disk with another seed.
func TestP3_10OtherSeeds(t *testing.T) {
	files := plain{"a": "1", "b": strings.Repeat("2", 40)}
	for seed := range uint64(100) {
		if seed != 5 {
			refused(t, seed, "bytes of another seed", files.bytes(5, 8))
		}
	}
	plain{}.check(t, 77, 8, mount(t, 77, plain{}.bytes(5, 8)))
}

// TestP3_10OtherCells: pieces whose cells have right coins, but which are not those of files.
func TestP3_10OtherCells(t *testing.T) {
	const seed, cells = 3, 12
	half, whole := strings.Repeat("h", 16), strings.Repeat("w", 32)
	for what, list := range map[string][]piece{
		"no last piece":                      {{"a", 0, false, whole}},
		"no last piece behind others":        {{"a", 0, false, whole}, {"a", 1, false, half}},
		"no first piece":                     {{"a", 1, true, half}},
		"a gap":                              {{"a", 0, false, whole}, {"a", 2, true, half}},
		"a piece behind the last one":        {{"a", 0, true, whole}, {"a", 1, true, half}},
		"a last piece that is not the last":  {{"a", 0, true, whole}, {"a", 1, false, half}},
		"a piece that is not full":           {{"a", 0, false, half}, {"a", 1, true, half}},
		"two pieces of half a piece's bytes": {{"a", 0, false, half}, {"a", 1, true, half + "x"}},
		"a last piece without bytes":         {{"a", 0, false, whole}, {"a", 1, true, ""}},
		"two pieces without bytes":           {{"a", 0, false, ""}, {"a", 1, true, ""}},
		"a first piece without bytes":        {{"a", 0, false, ""}, {"a", 1, true, half}},
		"a piece twice":                      {{"a", 0, true, half}, {"a", 0, true, half}},
		"a piece without bytes twice":        {{"a", 0, true, ""}, {"a", 0, true, ""}},
		"two pieces of one number":           {{"a", 0, false, whole}, {"a", 1, true, half}, {"a", 1, true, whole}},
		"a great number":                     {{"a", 65535, true, half}},
		"a number from 256 on":               {{"a", 0, false, whole}, {"a", 256, true, half}},
		"a number of 128":                    {{"a", 128, true, half}},
		"an allowed file and a gap":          {{"b", 0, true, "1"}, {"a", 0, false, whole}, {"a", 2, true, half}},
		"a great letter":                     {{"A", 0, true, half}},
		"an underscore":                      {{"a_", 0, true, half}},
		"a slash":                            {{"/", 0, true, half}},
		"a colon":                            {{":", 0, true, half}},
		"a comma":                            {{",", 0, true, half}},
		"a brace":                            {{"{", 0, true, half}},
		"a grave":                            {{"`", 0, true, half}},
		"a zero byte":                        {{"\x00", 0, true, half}},
		"a zero byte behind a name":          {{"a\x00", 0, true, half}},
		"a byte of 255":                      {{"\xff", 0, true, half}},
		"no name":                            {{"", 0, true, half}},
		"no name and no bytes":               {{"", 0, true, ""}},
	} {
		refused(t, seed, what, atRest(lay(seed, cells, ranked(seed, list))))
	}
	for what, list := range map[string][]piece{
		"a file of one piece":     {{"a", 0, true, half}},
		"a file of a whole piece": {{"a", 0, true, whole}},
		"a file of two pieces":    {{"a", 0, false, whole}, {"a", 1, true, half}},
		"a file without bytes":    {{"-.az09", 0, true, ""}},
	} {
		if d := mount(t, seed, atRest(lay(seed, cells, ranked(seed, list)))); len(d.Files()) != 1 {
			t.Errorf("%s: not one file", what)
		}
	}
}

// TestP3_10OtherBytesOfACell: each byte of a cell is another one, and the coin is that of the bytes, or not.
func TestP3_10OtherBytesOfACell(t *testing.T) {
	const seed, cells = 3, 8
	files := plain{"abc": strings.Repeat("x", 20), "b": strings.Repeat("y", 40)}
	b := files.bytes(seed, cells)
	taken := 0
	for c, cell := range files.cells(seed, cells) {
		at := size * (1 + 2*cells + c)
		for i := range size {
			for _, x := range []byte{1, 2, 4, 16, 32, 128, 255} {
				changed := with(cell, i, cell[i]^x)
				refused(t, seed, "a cell with another byte at "+strconv.Itoa(i), b[:at]+changed+b[at+size:])
				changed = sealed(seed, changed[:54])
				other := b[:at] + changed + b[at+size:]
				d, e := disk.Mount(seed, []byte(other), -1, 0)
				if e == api.OK {
					taken++
				}
				if (d == nil) != (e == api.ErrForm) || d != nil && (e != api.OK || cell == zeros || i < 22 && i != 2) {
					t.Fatalf("Mount of a cell with another byte at %d: %d", i, e)
				}
				if d != nil && string(d.Bytes()) != other {
					t.Fatalf("Mount of a cell with another byte at %d wrote to it", i)
				}
				if d != nil {
					contentOf(d).check(t, seed, cells, d)
				}
			}
		}
	}
	if taken < 300 {
		t.Errorf("%d disks with another byte are mounted: the test shows little", taken)
	}
}

// contentOf returns the files that a disk tells.
func contentOf(d *disk.Disk) plain {
	files := plain{}
	for _, f := range d.Files() {
		files[f.Name] = string(f.Data)
	}
	return files
}

// TestP3_10OtherPlaces: pieces in other cells than P3.3's.
func TestP3_10OtherPlaces(t *testing.T) {
	const seed, cells = 3, 8
	files := plain{"a": "1", "b": "2", "c": "3", "d": strings.Repeat("4", 60)}
	list := files.cells(seed, cells)
	for i := range list {
		for j := range i {
			if list[i] != list[j] {
				other := slices.Clone(list)
				other[i], other[j] = other[j], other[i]
				refused(t, seed, "pieces in other cells", atRest(other))
			}
		}
	}
	for turn := 1; turn < cells; turn++ {
		refused(t, seed, "all pieces further on", atRest(append(slices.Clone(list[turn:]), list[:turn]...)))
	}
}

// TestP3_10TooMuch: names, pieces and files that are too long, and disks that are too full.
func TestP3_10TooMuch(t *testing.T) {
	const seed, cells = 3, 100
	for _, n := range []int{1999, 2000} {
		files := plain{"a": strings.Repeat("x", n)}
		files.check(t, seed, cells, mount(t, seed, files.bytes(seed, cells)))
	}
	for _, n := range []int{2001, 2016, 2017, 2048} {
		refused(t, seed, "a file of "+strconv.Itoa(n)+" bytes", plain{"a": strings.Repeat("x", n)}.bytes(seed, cells))
	}
	for _, cells := range []int{8, 9, 10, 11, 40} {
		files := plain{}
		for i := range cells {
			files["n"+strconv.Itoa(i)] = ""
			b := files.bytes(seed, cells)
			if i < room(cells) {
				files.check(t, seed, cells, mount(t, seed, b))
			} else {
				refused(t, seed, strconv.Itoa(i+1)+" pieces in "+strconv.Itoa(cells)+" cells", b)
			}
		}
	}
	for _, x := range []struct {
		what string
		at   int
		c    byte
	}{
		{"a mark of 2", 0, 2}, {"a mark of 0", 0, 0}, {"a name of no bytes", 1, 0}, {"a name of 17 bytes", 1, 17}, {"a name of 255 bytes", 1, 255},
		{"a piece of 33 bytes", 2, 33}, {"a piece of 255 bytes", 2, 255}, {"a piece of 31 bytes and one more", 2, 31}, {"a last piece marked with 2", 3, 2},
	} {
		cell := piece{"sixteen-letters.", 0, true, strings.Repeat("w", 32)}.cell(seed)
		list := plain{"sixteen-letters.": strings.Repeat("w", 32)}.cells(seed, 8)
		list[slices.Index(list, cell)] = sealed(seed, with(cell, x.at, x.c)[:54])
		refused(t, seed, x.what, atRest(list))
	}
}

// TestP3_10RepairedAndRefused: the journal is repaired ahead of the look at the cells, so a power that fails meanwhile gives a disk that is down even of bytes that would be refused.
func TestP3_10RepairedAndRefused(t *testing.T) {
	const seed, cells = 3, 8
	b := []byte(journal{header: zeros, noise: map[int]string{3: filled("x", size), 7: filled("y", size)}}.over(plain{"a": "1"}.cells(seed, cells)))
	b[len(b)-1] ^= 1
	b[len(b)-65] ^= 1
	refused(t, seed, "cells that are none", string(b))
	for power := range 2 {
		d, e := disk.Mount(seed, b, power, 10)
		if d == nil || e != api.ErrDown {
			t.Fatalf("Mount with power %d: %d, expected ErrDown", power, e)
		}
		checkDown(t, d, made(string(b), repairWrites(seed, string(b)), power, 10))
	}
	if d, e := disk.Mount(seed, b, 2, 10); d != nil || e != api.ErrForm {
		t.Errorf("Mount with power 2: %d, expected ErrForm", e)
	}
	// Bytes that only the journal makes those of a disk.
	files := plain{"a": "1", "b": "2"}
	var entries []entry
	for c, to := range files.cells(seed, cells) {
		entries = append(entries, entryFor(c, to))
	}
	noise := slices.Repeat([]string{strings.Repeat("?", size)}, cells)
	files.check(t, seed, cells, repaired(t, seed, journal{headerFor(seed, entries), entries, nil}.over(noise)))
}

// TestP3_10AnyBytes: bytes that are not those of a disk, and bytes that are with a few changes, are refused or give a disk with plain bytes.
func TestP3_10AnyBytes(t *testing.T) {
	r := rand.New(rand.NewSource(311))
	const seed, cells = 8, 10
	mounted := 0
	for range 5000 {
		files := anyFiles(r, room(cells))
		b := []byte(files.bytes(seed, cells))
		if r.Intn(10) == 0 {
			r.Read(b)
		}
		for range r.Intn(3) {
			b[r.Intn(len(b))] = byte(r.Intn(256))
		}
		d, e := disk.Mount(seed, b, -1, 0)
		if (d == nil) != (e == api.ErrForm) || d != nil && e != api.OK {
			t.Fatalf("Mount: %d", e)
		}
		if d != nil {
			mounted++
			files.check(t, seed, cells, d)
		}
	}
	if mounted < 1000 {
		t.Errorf("%d of the bytes are mounted: the test shows little", mounted)
	}
}

// TestP3_12FailuresInMounts: the power fails in a commit at each write, and then in one mount after another, each time at another write, until a mount ends.
func TestP3_12FailuresInMounts(t *testing.T) {
	for _, x := range roads {
		old, new := x.from.bytes(x.seed, x.cells), x.to.bytes(x.seed, x.cells)
		writes := commitWrites(x.seed, x.cells, x.from, x.to)
		headerAt := (len(writes) - 2) / 5 * 2
		for power := range writes {
			for _, torn := range []int{0, 1, 4, 11, 12, 13, 14, 63, 64} {
				want := x.from
				if power > headerAt || power == headerAt && torn >= 13 {
					want = x.to
				}
				b := made(old, writes, power, torn).bytes
				for step := 1; step <= 3; step++ {
					for other := range 3 {
						m := mountAgain(t, x.seed, b, step, 5+29*other)
						want.check(t, x.seed, x.cells, m)
						if got := string(m.Bytes()); got != old && got != new {
							t.Fatalf("the bytes are neither those ahead of the commit nor those behind it")
						}
					}
				}
			}
		}
	}
}

// mountAgain mounts bytes with a power that fails after a few writes, again and again, until it does not fail any more.
func mountAgain(t *testing.T, seed uint64, b string, power, torn int) *disk.Disk {
	t.Helper()
	for range 200 {
		d, e := disk.Mount(seed, []byte(b), power, torn)
		if d == nil || e != api.OK && e != api.ErrDown {
			t.Fatalf("Mount with power %d: %d", power, e)
		}
		if e == api.OK {
			return d
		}
		checkDown(t, d, made(b, repairWrites(seed, b), power, torn))
		b = string(d.Bytes())
	}
	t.Fatalf("mounts with power %d do not end", power)
	return nil
}

// TestP3_12NoPower: mounts in which the power fails at the first write, and writes ever more of it, come to the files all the same.
func TestP3_12NoPower(t *testing.T) {
	for _, x := range roads {
		old := x.from.bytes(x.seed, x.cells)
		writes := commitWrites(x.seed, x.cells, x.from, x.to)
		headerAt := (len(writes) - 2) / 5 * 2
		for power := range writes {
			b := made(old, writes, power, 0).bytes
			for torn := range 65 {
				d, e := disk.Mount(x.seed, []byte(b), 0, torn)
				if d == nil || e != api.OK && e != api.ErrDown {
					t.Fatalf("Mount with power 0, torn %d: %d", torn, e)
				}
				b = string(d.Bytes())
			}
			if power <= headerAt {
				x.from.check(t, x.seed, x.cells, mount(t, x.seed, b))
			} else {
				x.to.check(t, x.seed, x.cells, mount(t, x.seed, b))
			}
		}
	}
}

package disk_test

import (
	"bytes"
	"math"
	"slices"
	"strings"
	"testing"

	"amnesty/api"
	"amnesty/disk"
)

func TestP3_8Format(t *testing.T) {
	for _, cells := range []int{math.MinInt, -8, -1, 0, 1, 7, 1025, 1 << 20, 1 << 32, math.MaxInt} {
		if d, e := disk.Format(1, cells); d != nil || e != api.ErrArg {
			t.Errorf("Format of %d cells: %d, expected ErrArg", cells, e)
		}
	}
	for _, cells := range []int{8, 9, 1024} {
		for _, seed := range []uint64{0, 1, 1<<64 - 1} {
			d := format(t, seed, cells)
			plain{}.check(t, seed, cells, d)
			if d.Writes() != 0 {
				t.Errorf("Format: %d writes", d.Writes())
			}
		}
	}
	one, other := format(t, 1, 8), format(t, 1, 8)
	commit(t, one, put("a", "b"))
	plain{}.check(t, 1, 8, other)
}

// TestP3_9Refused: changes that are not allowed change nothing, whatever the power.
func TestP3_9Refused(t *testing.T) {
	files := plain{"a": "old", "b": strings.Repeat("b", 100)}
	long, data := strings.Repeat("n", 17), strings.Repeat("d", 2001)
	for _, x := range []struct {
		what    string
		changes []api.Change
		want    api.Errno
	}{
		{"no name", []api.Change{put("", "x")}, api.ErrArg},
		{"no name, gone", []api.Change{gone("")}, api.ErrArg},
		{"a name of 17 bytes", []api.Change{put(long, "x")}, api.ErrArg},
		{"a name of 17 bytes, gone", []api.Change{gone(long)}, api.ErrArg},
		{"a long name", []api.Change{put(strings.Repeat("n", 100000), "x")}, api.ErrArg},
		{"data of 2001 bytes", []api.Change{put("c", data)}, api.ErrArg},
		{"data of many bytes", []api.Change{put("c", strings.Repeat(data, 1000))}, api.ErrArg},
		{"gone, with data", []api.Change{{Name: "a", Data: []byte{0}, Gone: true}}, api.ErrArg},
		{"gone, with too much data", []api.Change{{Name: "a", Data: []byte(data), Gone: true}}, api.ErrArg},
		{"one name twice", []api.Change{put("c", "1"), put("c", "2")}, api.ErrTwice},
		{"one name twice, the same data", []api.Change{put("c", "1"), put("c", "1")}, api.ErrTwice},
		{"one name twice, far apart", []api.Change{put("c", "1"), put("d", ""), put("e", ""), put("c", "1")}, api.ErrTwice},
		{"one file gone twice", []api.Change{gone("a"), gone("a")}, api.ErrTwice},
		{"gone and put", []api.Change{gone("a"), put("a", "")}, api.ErrTwice},
		{"put and gone", []api.Change{put("a", ""), gone("a")}, api.ErrTwice},
		{"no such file", []api.Change{gone("c")}, api.ErrNone},
		{"no such file among others", []api.Change{put("d", "x"), gone("c"), gone("a")}, api.ErrNone},
		{"no room", []api.Change{put("c", strings.Repeat("c", 33))}, api.ErrFull},
		{"no room for more of a file", []api.Change{put("a", strings.Repeat("c", 65))}, api.ErrFull},
		{"no room for many", []api.Change{put("c", ""), put("d", "")}, api.ErrFull},
		{"no room, though a file goes", []api.Change{gone("a"), put("c", strings.Repeat("c", 65))}, api.ErrFull},
		// The errors in their order, each over all changes.
		{"ErrArg behind ErrTwice", []api.Change{put("c", ""), put("c", ""), put("A", "")}, api.ErrArg},
		{"ErrArg behind ErrNone", []api.Change{gone("c"), put("d", data)}, api.ErrArg},
		{"ErrArg behind ErrFull", []api.Change{put("c", data[1:]), {Name: "a", Data: []byte{1}, Gone: true}}, api.ErrArg},
		{"ErrArg of one name twice", []api.Change{put("A", ""), put("A", "")}, api.ErrArg},
		{"ErrTwice behind ErrNone", []api.Change{gone("c"), put("d", ""), put("d", "")}, api.ErrTwice},
		{"ErrTwice of a file that is not there", []api.Change{gone("c"), gone("c")}, api.ErrTwice},
		{"ErrTwice behind ErrFull", []api.Change{put("c", data[1:]), put("d", ""), put("d", "")}, api.ErrTwice},
		{"ErrNone behind ErrFull", []api.Change{put("c", data[1:]), gone("d")}, api.ErrNone},
	} {
		for _, power := range []int{-1, 0, 3} {
			d := files.diskOf(t, 2, 8)
			commit(t, d, put("b", strings.Repeat("b", 100)), put("a", "other"))
			commit(t, d, put("a", "old"))
			n := d.Writes()
			if e := d.Commit(x.changes, power, 64); e != x.want {
				t.Errorf("Commit of %s: %d, expected %d", x.what, e, x.want)
			}
			files.check(t, 2, 8, d)
			if d.Writes() != n || n == 0 {
				t.Errorf("Commit of %s: %d writes, expected the %d of the last one that was not refused", x.what, d.Writes(), n)
			}
		}
	}
}

// TestP3_9Names: which bytes a name may have.
func TestP3_9Names(t *testing.T) {
	for c := range 256 {
		name := string([]byte{byte(c)})
		allowed := strings.Contains(letters, name)
		for _, s := range []string{name, "a" + name, name + "z", "ab" + name + "cd"} {
			d := format(t, 1, 8)
			e := d.Commit([]api.Change{put(s, "x")}, -1, 0)
			if allowed != (e == api.OK) || !allowed && e != api.ErrArg {
				t.Errorf("a file with the name %q: %d", s, e)
			}
			if allowed {
				plain{s: "x"}.check(t, 1, 8, d)
			}
		}
	}
	for n := 1; n <= 16; n++ {
		files := plain{strings.Repeat("n", n): "x"}
		files.check(t, 1, 8, files.diskOf(t, 1, 8))
	}
}

// TestP3_9AtOnce: a commit may take files out to make room for others.
func TestP3_9AtOnce(t *testing.T) {
	files := plain{"a": strings.Repeat("a", 192)}
	d := files.diskOf(t, 3, 8)
	after := plain{"b": strings.Repeat("b", 100), "c": "", "d": "d"}
	for _, changes := range [][]api.Change{files.into(after), after.into(files)} {
		slices.Reverse(changes)
		commit(t, d, changes...)
		slices.Reverse(changes)
		if changes[0].Name == "a" {
			after.check(t, 3, 8, d)
		} else {
			files.check(t, 3, 8, d)
		}
	}
	commit(t, d, put("a", strings.Repeat("a", 32)), put("b", ""), put("c", ""), put("d", ""), put("e", ""), put("f", ""))
	commit(t, d, api.Change{Name: "a", Data: []byte{}, Gone: true}, put("g", ""))
	plain{"b": "", "c": "", "d": "", "e": "", "f": "", "g": ""}.check(t, 3, 8, d)
}

// TestP3_9Down: a disk whose power has failed answers ErrDown ahead of all other errors of a commit, and stays as it is.
func TestP3_9Down(t *testing.T) {
	files := plain{"a": "old"}
	d := files.diskOf(t, 3, 8)
	changes := []api.Change{put("a", "new")}
	if e := d.Commit(changes, 3, 5); e != api.ErrDown {
		t.Fatalf("Commit with power 3: %d, expected ErrDown", e)
	}
	want := made(files.bytes(3, 8), commitWrites(3, 8, files, plain{"a": "new"}), 3, 5)
	for _, changes := range [][]api.Change{nil, changes, {put("A", "")}, {put("b", ""), put("b", "")}, {gone("b")}, {put("b", strings.Repeat("b", 2000))}} {
		for _, power := range []int{-1, 0, 100} {
			if e := d.Commit(changes, power, 0); e != api.ErrDown {
				t.Errorf("Commit to a disk that is down: %d, expected ErrDown", e)
			}
			checkDown(t, d, want)
		}
	}
	m, e := disk.Mount(3, d.Bytes(), 1, 0)
	if m == nil || e != api.ErrDown {
		t.Fatalf("Mount with power 1: %d, expected ErrDown", e)
	}
	if e := m.Commit(nil, -1, 0); e != api.ErrDown {
		t.Errorf("Commit to a disk whose mount failed: %d, expected ErrDown", e)
	}
	checkDown(t, m, made(want.bytes, repairWrites(3, want.bytes), 1, 0))
	plain{"a": "new"}.check(t, 3, 8, mount(t, 3, string(m.Bytes())))
}

// TestP3_11Writes: the number is that of the last operation that was not refused.
func TestP3_11Writes(t *testing.T) {
	d := format(t, 3, 8)
	for _, x := range []struct {
		changes      []api.Change
		power, wants int
	}{
		{[]api.Change{put("a", "1")}, -1, 7},
		{[]api.Change{put("A", "1")}, -1, 7},
		{[]api.Change{put("a", strings.Repeat("1", 33))}, -1, 12},
		{[]api.Change{gone("b")}, -1, 12},
		{[]api.Change{put("a", strings.Repeat("1", 33))}, -1, 0},
		{[]api.Change{put("a", strings.Repeat("1", 33)), put("b", "1")}, -1, 7},
		{nil, -1, 0},
		{[]api.Change{gone("a")}, 12, 12},
		{[]api.Change{gone("b")}, 5, 5},
		{nil, -1, 5},
	} {
		d.Commit(x.changes, x.power, 0)
		if d.Writes() != x.wants {
			t.Errorf("Writes behind a Commit of %v: %d, expected %d", x.changes, d.Writes(), x.wants)
		}
	}
	if m := mount(t, 3, string(d.Bytes())); m.Writes() != 1 {
		t.Errorf("Writes behind a Mount: %d, expected 1", m.Writes())
	}
}

// TestP3_11Files: in the order of names, bytewise.
func TestP3_11Files(t *testing.T) {
	files := plain{"a": "1", "a.": "2", "a-": "", "0": "4", "aa": "5", ".": "6", "-": "7", "z": "8", "a0": "9"}
	d := files.diskOf(t, 3, 16)
	files.check(t, 3, 16, d)
	var names []string
	for _, f := range d.Files() {
		names = append(names, f.Name)
	}
	if want := []string{"-", ".", "0", "a", "a-", "a.", "a0", "aa", "z"}; !slices.Equal(names, want) {
		t.Errorf("Files: %q, expected %q", names, want)
	}
}

// TestP3_11Read: what is there, what is not, and names that are not allowed, also those that begin as one that is there.
func TestP3_11Read(t *testing.T) {
	files := plain{"a": strings.Repeat("a", 65), "a.": "", "sixteen-letters.": "x"}
	d := files.diskOf(t, 3, 8)
	for name, want := range files {
		if b, e := d.Read(name); string(b) != want || e != api.OK {
			t.Errorf("Read(%q): %q, %d", name, b, e)
		}
	}
	for _, name := range []string{"", "b", "a..", ".", "A", "a\x00", "a\x00\x00", "sixteen-letters", "sixteen-letters.x", strings.Repeat("a", 100000)} {
		if b, e := d.Read(name); len(b) != 0 || e != api.ErrNone {
			t.Errorf("Read(%q): %q, %d, expected ErrNone", name, b, e)
		}
	}
	commit(t, d, gone("a"))
	if b, e := d.Read("a"); len(b) != 0 || e != api.ErrNone {
		t.Errorf("Read of a file that went: %q, %d, expected ErrNone", b, e)
	}
	d.Commit([]api.Change{put("a", "")}, 0, 0)
	for _, name := range []string{"a", "a.", "b", "A", ""} {
		if b, e := d.Read(name); len(b) != 0 || e != api.ErrDown {
			t.Errorf("Read(%q) of a disk that is down: %q, %d, expected ErrDown", name, b, e)
		}
	}
}

// TestP1NoDisk: a disk that is nil, and the zero value.
func TestP1NoDisk(t *testing.T) {
	for _, d := range []*disk.Disk{nil, {}} {
		for _, changes := range [][]api.Change{nil, {put("a", "1")}, {put("A", "")}, {gone("a")}} {
			for _, power := range []int{-1, 0, 1} {
				if e := d.Commit(changes, power, 0); e != api.ErrArg {
					t.Errorf("Commit to no disk: %d, expected ErrArg", e)
				}
			}
		}
		for _, name := range []string{"a", "", "A"} {
			if b, e := d.Read(name); len(b) != 0 || e != api.ErrNone {
				t.Errorf("Read(%q) of no disk: %q, %d, expected ErrNone", name, b, e)
			}
		}
		if len(d.Files()) != 0 || d.Free() != 0 || d.Writes() != 0 || len(d.Bytes()) != 0 {
			t.Errorf("no disk: %d files, room for %d, %d writes, %d bytes", len(d.Files()), d.Free(), d.Writes(), len(d.Bytes()))
		}
	}
}

// TestP3Arguments: arguments are neither modified nor kept.
func TestP3Arguments(t *testing.T) {
	files := plain{"a": strings.Repeat("old", 20), "b": "b", "c": ""}
	changes := plain{}.into(files)
	given := make([]api.Change, len(changes))
	for i, c := range changes {
		given[i] = api.Change{Name: c.Name, Data: bytes.Clone(c.Data), Gone: c.Gone}
	}
	d := format(t, 3, 8)
	commit(t, d, changes...)
	same := func(a, b api.Change) bool { return a.Name == b.Name && bytes.Equal(a.Data, b.Data) && a.Gone == b.Gone }
	if !slices.EqualFunc(changes, given, same) {
		t.Errorf("Commit modified its changes")
	}
	for i := range changes {
		spoil(changes[i].Data)
		changes[i] = api.Change{}
	}
	files.check(t, 3, 8, d)

	for _, power := range []int{-1, 2} {
		d := files.diskOf(t, 3, 8)
		d.Commit([]api.Change{put("b", "new")}, 4, 0)
		b := d.Bytes()
		m, e := disk.Mount(3, b, power, 9)
		if m == nil {
			t.Fatalf("Mount: %d", e)
		}
		if !bytes.Equal(b, d.Bytes()) {
			t.Errorf("Mount modified the bytes")
		}
		want := m.Bytes()
		spoil(b)
		if !bytes.Equal(m.Bytes(), want) {
			t.Errorf("Mount kept the bytes")
		}
	}
}

// TestP3Results: results share memory with nothing.
func TestP3Results(t *testing.T) {
	files := plain{"a": strings.Repeat("old", 20), "b": "b", "c": "", "d": strings.Repeat("d", 32)}
	d := files.diskOf(t, 3, 10)
	one, err := d.Read("a")
	if err != api.OK {
		t.Fatalf("Read: %d", err)
	}
	other, _ := d.Read("a")
	list := d.Files()
	b := d.Bytes()
	spoil(one, b)
	for _, f := range list {
		if string(f.Data) != files[f.Name] {
			t.Errorf("Files and other results share memory")
		}
		spoil(f.Data)
	}
	for i := range list {
		list[i].Name = "?"
	}
	if string(other) != files["a"] {
		t.Errorf("two results of Read share memory")
	}
	files.check(t, 3, 10, d)

	e := d.Commit([]api.Change{put("b", "new")}, 3, 0)
	want := made(files.bytes(3, 10), commitWrites(3, 10, files, plain{"a": files["a"], "b": "new", "c": "", "d": files["d"]}), 3, 0)
	spoil(d.Bytes())
	if e != api.ErrDown {
		t.Errorf("Commit with power 3: %d", e)
	}
	checkDown(t, d, want)
}

// TestP4TheSameCalls: the same calls have the same results.
func TestP4TheSameCalls(t *testing.T) {
	var bytes []string
	for range 20 {
		d := format(t, 9, 30)
		commit(t, d, put("a", "1"), put("b", "2"), put("c", strings.Repeat("3", 99)), put("d", "4"), put("e", ""))
		d.Commit([]api.Change{gone("a"), put("f", "6"), put("c", strings.Repeat("4", 99))}, 15, 33)
		bytes = append(bytes, string(d.Bytes()))
	}
	if list := slices.Compact(bytes); len(list) != 1 {
		t.Errorf("the same calls leave %d different disks", len(list))
	}
}

// TestAnotherNameOfADisk: a Disk that a caller copies is the same disk.
func TestAnotherNameOfADisk(t *testing.T) {
	d := format(t, 3, 8)
	copied := *d
	commit(t, d, put("a", "1"))
	plain{"a": "1"}.check(t, 3, 8, &copied)
	commit(t, &copied, put("b", "2"))
	plain{"a": "1", "b": "2"}.check(t, 3, 8, d)
}

// TestP3_9Examples: the table of the chapter's examples.
func TestP3_9Examples(t *testing.T) {
	d := format(t, 1, 8)
	if len(d.Bytes()) != 1600 || d.Free() != 6 {
		t.Errorf("a disk of 8 cells: %d bytes, room for %d pieces", len(d.Bytes()), d.Free())
	}
	files := plain{"a": strings.Repeat("x", 33)}
	commit(t, d, put("a", files["a"]))
	if d.Writes() != 12 || d.Free() != 4 || string(d.Bytes()[:64*17]) != strings.Repeat(zeros, 17) {
		t.Errorf("33 bytes: %d writes, room for %d pieces", d.Writes(), d.Free())
	}
	commit(t, d, put("a", files["a"]))
	if d.Writes() != 0 {
		t.Errorf("the same bytes: %d writes", d.Writes())
	}
	for torn, want := range map[int]plain{64: {}, 12: files} {
		m := mount(t, 1, string(d.Bytes()))
		if e := m.Commit([]api.Change{gone("a")}, 4, torn); e != api.ErrDown || m.Writes() != 4 {
			t.Errorf("power 4, torn %d: %d, %d writes", torn, e, m.Writes())
		}
		want.check(t, 1, 8, mount(t, 1, string(m.Bytes())))
	}
}

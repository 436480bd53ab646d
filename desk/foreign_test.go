package desk

import (
	"bytes"
	"fmt"
	"slices"
	"strings"
	"testing"

	"amnesty/api"
	"amnesty/disk"
	"amnesty/keep"
	"amnesty/order"
)

// No script writes files that are not a store's records: so these tests lay them on the disk of a place.

// tell runs lines, each of which has the answer that stands behind its arrow.
func tell(t *testing.T, d *desk, lines ...string) {
	t.Helper()
	for _, each := range lines {
		line, want, _ := strings.Cut(each, " -> ")
		if got := d.answer(line); got != want {
			t.Fatalf("%q: %q, not %q", line, got, want)
		}
	}
}

// diskOf returns a disk with some files, of which each one's data follow its name.
func diskOf(t *testing.T, seed uint64, files ...string) *disk.Disk {
	t.Helper()
	made, _ := disk.Format(seed, 400)
	if err := made.Commit(changesOf(files), -1, 0); err != api.OK {
		t.Fatal(err)
	}
	return made
}

func changesOf(files []string) []api.Change {
	var list []api.Change
	for i := 0; i < len(files); i += 2 {
		list = append(list, api.Change{Name: files[i], Data: []byte(files[i+1])})
	}
	return list
}

// recordsOf returns the records of a store with so many records whose texts have 188 bytes: 4 bytes, and 200 of each.
func recordsOf(seed uint64, count int) string {
	s := keep.Open(seed)
	for i := range count {
		s.Do(fmt.Sprintf(`put %c 1 2 3 "%s"`, 'a'+i, strings.Repeat("x", 188)))
	}
	return string(s.Records())
}

// deskWith returns a desk with a place whose disk this is.
func deskWith(on *disk.Disk) *desk {
	return &desk{map[string]*place{"a": {1, keep.Open(1), on}}}
}

// checkForeign checks that a place is refused whose disk this is, and that its bytes are these then.
func checkForeign(t *testing.T, on *disk.Disk, left []byte) {
	t.Helper()
	d := deskWith(on)
	tell(t, d, "do a count -> 0")
	for range 2 {
		tell(t, d, "mount a -> bad", "do a count -> down", "save a -> down", "save a 1 1 -> down", "mirror a a -> down", fmt.Sprint("size a -> 0 ", len(left)), "open a 0000000000000001 8 -> twice", "mount a 0 0 -> bad")
		if !bytes.Equal(d.places["a"].bytes(), left) {
			t.Fatal("other bytes are left")
		}
	}
	tell(t, d, "close a -> ok", "mount a -> none")
}

// foreign are files that are not a store's records in parts.
func foreign() map[string][]string {
	many := recordsOf(1, 25) // 5004 bytes
	value := order.New(1)
	value.Put([]byte("a"), []byte("x"))
	key := order.New(1)
	key.Put([]byte("A"), make([]byte, 7))
	var crowd []string
	full := order.New(1)
	for i := range 301 {
		full.Put(fmt.Appendf(nil, "k%d", i), make([]byte, 7))
	}
	for part := range slices.Chunk(full.Image(), 2000) {
		crowd = append(crowd, fmt.Sprintf("r%03d", len(crowd)/2), string(part))
	}
	return map[string][]string{
		"another name":     {"a", recordsOf(1, 0)},
		"a shorter name":   {"r00", recordsOf(1, 0)},
		"a longer name":    {"r0000", recordsOf(1, 0)},
		"one more":         {"r000", recordsOf(1, 3), "x", ""},
		"one more ahead":   {"a", "", "r000", recordsOf(1, 3)},
		"one more between": {"r000", many[:2000], "r000-", "", "r001", many[2000:4000], "r002", many[4000:]},
		"from 1 on":        {"r001", recordsOf(1, 3)},
		"a gap":            {"r000", many[:2000], "r001", many[2000:4000], "r003", many[4000:]},
		"no first part":    {"r001", many[2000:4000], "r002", many[4000:]},
		"no last part":     {"r000", many[:2000], "r001", many[2000:4000]},
		"a part too many":  {"r000", recordsOf(1, 3), "r001", ""},
		"a short part":     {"r000", many[:1999], "r001", many[1999:3999], "r002", many[3999:]},
		"short parts":      {"r000", many[:1500], "r001", many[1500:3200], "r002", many[3200:]},
		"a short one last": {"r000", many[:2000], "r001", many[2000:3999], "r002", many[3999:]},
		"others' order":    {"r000", many[2000:4000], "r001", many[:2000], "r002", many[4000:]},
		"no bytes":         {"r000", ""},
		"no bytes, twice":  {"r000", "", "r001", ""},
		"a byte less":      {"r000", recordsOf(1, 3)[:603]},
		"a byte more":      {"r000", recordsOf(1, 3) + "x"},
		"another byte":     {"r000", recordsOf(1, 3)[:603] + `"`},
		"another seed":     {"r000", recordsOf(4, 9)},
		"no record":        {"r000", string(value.Image())},
		"no key":           {"r000", string(key.Image())},
		"too many records": crowd,
		"anything":         {"r000", "anything", "b", "c"},
	}
}

// TestP8_1MountForeign: files that are not a store's records are refused; the place is down then.
func TestP8_1MountForeign(t *testing.T) {
	for name, files := range foreign() {
		t.Run(name, func(t *testing.T) {
			on := diskOf(t, 1, files...)
			checkForeign(t, on, on.Bytes())
		})
	}
}

// TestP8_1MountForeignRepaired: the bytes are as the repair left them, also if its power fails before it is done.
func TestP8_1MountForeignRepaired(t *testing.T) {
	for name, files := range foreign() {
		t.Run(name, func(t *testing.T) {
			whole := diskOf(t, 1, files...)
			for _, power := range []int{whole.Writes()/5*2 + 1, whole.Writes()/5*3 + 1, whole.Writes() - 1} {
				torn := diskOf(t, 1)
				if err := torn.Commit(changesOf(files), power, 5); err != api.ErrDown {
					t.Fatal(err)
				}
				checkForeign(t, torn, whole.Bytes())
				d := deskWith(torn)
				tell(t, d, "mount a 0 7 -> down", "do a count -> down", "mount a 0 64 -> down", "mount a -> bad")
				if !bytes.Equal(d.places["a"].bytes(), whole.Bytes()) {
					t.Fatal("other bytes are left")
				}
			}
		})
	}
}

// TestP8_1MountNoDisk: bytes that are no disk's of the seed are refused as files that are not a store's.
func TestP8_1MountNoDisk(t *testing.T) {
	on := diskOf(t, 2, "r000", recordsOf(1, 3))
	checkForeign(t, on, on.Bytes())
}

// TestP8_2MountParts: records in parts are read, also if the last part has no bytes, which no save leaves; a save behind it writes them as they belong.
func TestP8_2MountParts(t *testing.T) {
	many := recordsOf(1, 25)
	var filled string
	s := keep.Open(1)
	for i := range 10 {
		s.Do(fmt.Sprintf(`put %c 1 2 3 "%s"`, 'a'+i, strings.Repeat("x", 188-4*max(0, i-8))))
	}
	if filled = string(s.Records()); len(filled) != 2000 {
		t.Fatal(len(filled))
	}
	for _, each := range []struct {
		files []string
		count int
		plain []string
	}{
		{nil, 0, []string{"r000", recordsOf(1, 0)}},
		{[]string{"r000", recordsOf(1, 0)}, 0, []string{"r000", recordsOf(1, 0)}},
		{[]string{"r000", recordsOf(1, 9)}, 9, []string{"r000", recordsOf(1, 9)}},
		{[]string{"r000", filled}, 10, []string{"r000", filled}},
		{[]string{"r000", filled, "r001", ""}, 10, []string{"r000", filled}},
		{[]string{"r000", many[:2000], "r001", many[2000:4000], "r002", many[4000:]}, 25, []string{"r000", many[:2000], "r001", many[2000:4000], "r002", many[4000:]}},
	} {
		d := deskWith(diskOf(t, 1, each.files...))
		tell(t, d, "mount a -> up 0", fmt.Sprint("do a count -> ", each.count))
		if answer := d.answer("save a"); !strings.HasPrefix(answer, "saved ") {
			t.Fatal(answer)
		}
		if !bytes.Equal(d.places["a"].disk.Bytes(), diskOf(t, 1, each.plain...).Bytes()) {
			t.Errorf("%d records: other bytes are left", each.count)
		}
	}
}

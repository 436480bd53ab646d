package desk_test

import (
	"fmt"
	"math/rand"
	"slices"
	"strings"
	"testing"

	"amnesty/api"
	"amnesty/disk"
	"amnesty/keep"
)

// torns are numbers of bytes that a torn write has written: those about the parts of a header, none, all, and more.
var torns = []int{0, 1, 3, 4, 5, 11, 12, 13, 14, 32, 63, 64, 65, 999999999}

// change are lines behind which a save replaces a file of some pieces by one of others; behind the first save of an empty store.
var change = []string{"open a " + seed1 + " 24 -> ok", "do a put old 1 2 3 \"red fox\" -> new", "do a hold old me -> ok", "save a", "do a put new 4 5 6 \"" + strings.Repeat("blue ", 12) + "\" -> new", "do a free old me -> ok", "do a drop old -> gone"}

// looks returns the looks at the place of change at rest: with what was saved first, and with what is saved then; and how many writes the second save needs.
func looks(t *testing.T) (old, made string, writes int) {
	t.Helper()
	old = run(t, append(slices.Clone(change[:4]), "look a")...)[4]
	answers := run(t, append(slices.Clone(change), "save a", "look a")...)
	if n, err := fmt.Sscanf(answers[7], "saved %d", &writes); n != 1 || err != nil || writes < 12 || writes%5 != 2 {
		t.Fatal(answers)
	}
	return old, answers[8], writes
}

// TestP8_1SaveFails: a power that fails in a save leaves a place that is down; behind the next mount there is what was saved before, unless the header was written whole, as far as it is not zeros.
func TestP8_1SaveFails(t *testing.T) {
	old, made, writes := looks(t)
	n := (writes - 2) / 5
	for power := range writes + 2 {
		for _, torn := range torns {
			save := fmt.Sprintf("save a %d %d", power, torn)
			if power >= writes {
				run(t, append(slices.Clone(change), fmt.Sprint(save, " -> saved ", writes), "do a count -> 1", "look a -> "+made, "mount a -> up 0", "look a -> "+made)...)
				continue
			}
			want := old
			if power > 2*n || power == 2*n && torn >= 13 {
				want = made
			}
			run(t, append(slices.Clone(change), save+" -> down", "do a count -> down", "save a -> down", "save a 99 0 -> down", "mirror a a -> down", "size a -> 0 4672", "look a", "mount a", "look a -> "+want, "size a", "do a span 0 z", "mount a -> up 0", "look a -> "+want, "save a -> saved 0")...)
		}
	}
}

// TestP8_1MountFails: a mount whose power fails leaves the place down, and may be followed by others.
func TestP8_1MountFails(t *testing.T) {
	old, made, writes := looks(t)
	n := (writes - 2) / 5
	for power := range writes {
		want := old
		if power > 2*n {
			want = made
		}
		torn := torns[power%5]
		begin := append(slices.Clone(change), fmt.Sprintf("save a %d %d -> down", power, torn))
		repairs := 0
		answers := run(t, append(slices.Clone(begin), "mount a")...)
		fmt.Sscanf(answers[len(answers)-1], "up %d", &repairs)
		for again := range repairs + 2 {
			for _, bytes := range torns {
				answer := "down"
				if again >= repairs {
					answer = fmt.Sprint("up ", repairs)
				}
				mount := fmt.Sprintf("mount a %d %d -> %s", again, bytes, answer)
				script := append(slices.Clone(begin), mount)
				if answer == "down" {
					script = append(script, "do a count -> down", "save a -> down", "size a -> 0 4672", "look a", fmt.Sprintf("mount a %d %d", again/2, bytes), fmt.Sprintf("mount a %d 1", again%3), "look a", "mount a")
				}
				run(t, append(script, "look a -> "+want, "mount a -> up 0", "mount a 0 0 -> up 0", "look a -> "+want)...)
			}
		}
	}
}

// TestP8_3MountUp: a mount of a place that is up loses what was not saved; it writes nothing, so no power fails in it.
func TestP8_3MountUp(t *testing.T) {
	old, made, _ := looks(t)
	for _, mount := range []string{"mount a", "mount a 0 0", "mount a 0 64", "mount a 1 1", "mount a 999999999 999999999"} {
		run(t, append(slices.Clone(change), mount+" -> up 0", "look a -> "+old, "do a span 0 z -> old", "do a get old -> 1 2 3 \"red fox\" held 1", "save a -> saved 0")...)
		run(t, append(slices.Clone(change), "save a", mount+" -> up 0", "look a -> "+made, "do a span 0 z -> new", "save a -> saved 0")...)
	}
}

// TestP8_1MountNeverSaved: where no files are, an empty store lies.
func TestP8_1MountNeverSaved(t *testing.T) {
	fresh := run(t, "open a "+seed1+" 24", "look a")[1]
	for _, mount := range []string{"mount a", "mount a 0 0"} {
		run(t, "open a "+seed1+" 24", mount+" -> up 0", "look a -> "+fresh, "do a put k 1 1 1 \"x\" -> new", mount+" -> up 0", "do a count -> 0", "look a -> "+fresh)
	}
	run(t, "open a "+seed1+" 24", "do a put k 1 1 1 \"x\" -> new", "save a 0 0 -> down", "mount a 0 0 -> up 0", "look a -> "+fresh, "do a put k 1 1 1 \"x\" -> new", "save a 1 5 -> down", "mount a 0 3 -> down", "mount a -> up 1", "look a -> "+fresh)
}

// TestP8_3Save: a save does not change the store, and what is saved again is not written again.
func TestP8_3Save(t *testing.T) {
	for _, save := range []string{"save a", "save a 999 0", "save a 999999999 999999999"} {
		script := append(slices.Clone(change), "do a hold new you -> ok", "do a drop new -> due", "do a view", "do a digest", "do a ask \"blue\" -> new", save, "do a view", "do a digest", "do a ask \"blue\" -> new", "do a get new", save+" -> saved 0", "save a 0 0 -> saved 0", "do a count -> 1")
		answers := run(t, script...)
		n := len(change)
		same(t, answers, n+2, answers, n+6)
		same(t, answers, n+3, answers, n+7)
	}
}

// TestP8_1SaveFull: a disk of 8 cells has room for 192 bytes of records. What does not fit changes nothing, also where the power would fail.
func TestP8_1SaveFull(t *testing.T) {
	fits := fmt.Sprintf(`do a put k 1 2 3 "%s" -> new`, strings.Repeat("x", 176))
	more := fmt.Sprintf(`do a put k 1 2 3 "%s" -> new`, strings.Repeat("x", 177))
	run(t, "open a "+seed1+" 8", fits, "save a -> saved 32", "mount a -> up 0", "do a count -> 1")
	for _, save := range []string{"save a", "save a 0 0", "save a 3 9", "save a 999999999 64"} {
		answers := run(t, "open a "+seed1+" 8", more, "look a", save+" -> full", "look a", "do a count -> 1", "mount a -> up 0", "do a count -> 0")
		same(t, answers, 2, answers, 4)
		answers = run(t, "open a "+seed1+" 8", "do a put l 1 1 1 \"x\" -> new", "save a", "do a drop l -> gone", more, "look a", "size a", save+" -> full", "look a", "size a", "do a drop k -> gone", fits, "save a", "mount a -> up 0", "do a rank l -> 1", "do a count -> 1")
		same(t, answers, 5, answers, 8)
		same(t, answers, 6, answers, 9)
	}
	// The files that go make room for those that come.
	run(t, "open a "+seed1+" 8", fits, "save a -> saved 32", fmt.Sprintf(`do a put k 9 9 3 "%s" -> changed`, strings.Repeat("y", 176)), "save a -> saved 32", fmt.Sprintf(`do a put k 9 9 3 "%s" -> changed`, strings.Repeat("y", 177)), "save a -> full", "mount a -> up 0", fmt.Sprintf(`do a get k -> 9 9 3 "%s"`, strings.Repeat("y", 176)))
}

// filled returns lines by which the records of a place become so many bytes, of which each takes 12 and its text.
func filled(t *testing.T, name string, size int) []string {
	t.Helper()
	s, lines := keep.Open(1), []string(nil)
	for rest := size - 4; rest > 0; {
		text := min(200, rest-12)
		if left := rest - 12 - text; left > 0 && left < 12 {
			text -= 12
		}
		line := fmt.Sprintf(`put %c 1 2 3 "%s"`, 'a'+len(lines), strings.Repeat("x", text))
		lines = append(lines, line)
		s.Do(line)
		rest -= 12 + text
	}
	if len(s.Records()) != size {
		t.Fatalf("%d bytes, not %d", len(s.Records()), size)
	}
	for i := range lines {
		lines[i] = "do " + name + " " + lines[i]
	}
	return lines
}

// TestP8_2Parts: records that fill files, and such of one byte less or more; each behind each other, which leaves nothing.
func TestP8_2Parts(t *testing.T) {
	sizes := []int{4, 100, 1999, 2000, 2001, 2012, 3999, 4000, 4001}
	for _, size := range sizes {
		script := append([]string{"open a " + seed1 + " 400"}, filled(t, "a", size)...)
		fresh := run(t, append(slices.Clone(script), "save a", "mount a -> up 0", "look a", "size a")...)
		if got, want := fresh[len(fresh)-2], lookOf(t, 400, script[1:]); got != want {
			t.Fatalf("%d bytes: %q, not %q", size, got, want)
		}
		for _, before := range sizes {
			first := append([]string{"open a " + seed1 + " 400"}, filled(t, "a", before)...)
			first = append(first, "save a")
			for c := 'a'; c <= 'z'; c++ {
				first = append(first, fmt.Sprintf("do a drop %c", c))
			}
			answers := run(t, append(slices.Concat(first, script[1:]), "save a", "look a", "size a", "mount a -> up 0", "look a")...)
			same(t, answers, -4, fresh, -2)
			same(t, answers, -1, fresh, -2)
		}
	}
}

// lookOf returns the look at a place with the seed 1, and so many cells, whose store was told some lines, and saved: its files are the records in parts, written in one commit.
func lookOf(t *testing.T, cells int, lines []string) string {
	t.Helper()
	s := keep.Open(1)
	for _, line := range lines {
		s.Do(strings.TrimPrefix(line, "do a "))
	}
	var files []api.Change
	for rest := s.Records(); len(rest) > 0; {
		n := min(2000, len(rest))
		files = append(files, api.Change{Name: []string{"r000", "r001", "r002"}[len(files)], Data: rest[:n]})
		rest = rest[n:]
	}
	d, _ := disk.Format(1, cells)
	if err := d.Commit(files, -1, 0); err != api.OK {
		t.Fatal(err)
	}
	return coin(slices.Concat(s.Image(), d.Bytes()))
}

// TestP8_2PartsFail: where the power fails while one file becomes three, or the other way round, all of them are there behind the mount, or none.
func TestP8_2PartsFail(t *testing.T) {
	few, many := filled(t, "a", 150), filled(t, "a", 4100)
	var drops []string
	for c := 'a'; c <= 'z'; c++ {
		drops = append(drops, fmt.Sprintf("do a drop %c", c))
	}
	r := rand.New(rand.NewSource(1))
	for _, each := range [][2][]string{{few, many}, {many, few}} {
		script := slices.Concat([]string{"open a " + seed1 + " 200"}, each[0], []string{"save a"}, drops, each[1])
		old, made := lookOf(t, 200, each[0]), lookOf(t, 200, each[1])
		var writes int
		answers := run(t, append(slices.Clone(script), "save a")...)
		fmt.Sscanf(answers[len(answers)-1], "saved %d", &writes)
		n := (writes - 2) / 5
		for _, power := range []int{0, 1, n, 2*n - 1, 2*n + 1, 2*n + 2, 3 * n, 3*n + 1, 3*n + 2, 4 * n, writes - 1} {
			want := old
			if power > 2*n {
				want = made
			}
			fail := fmt.Sprintf("mount a %d %d", r.Intn(n), r.Intn(65))
			answers := run(t, append(slices.Clone(script), fmt.Sprintf("save a %d %d -> down", power, r.Intn(65)), fail, "mount a", "look a")...)
			if got := answers[len(answers)-1]; got != want {
				t.Fatalf("%d writes: %q, not %q", power, got, want)
			}
		}
	}
}

// TestP8_2ManyParts: the records of a script of nearly MaxScript bytes, which nine files have.
func TestP8_2ManyParts(t *testing.T) {
	lines := []string{"open a " + seed1 + " 1024"}
	for i := range 76 {
		lines = append(lines, fmt.Sprintf(`do a put k%02d %d 1 1 "%s" -> new`, i, i, strings.Repeat(fmt.Sprint(i%10), 200)))
	}
	for i := range 3 {
		lines = append(lines, fmt.Sprintf("do a hold k%02d h -> ok", i))
	}
	run(t, append(lines, "save a", "look a", "do a digest", "mount a -> up 0", "look a", "do a count -> 76", "save a -> saved 0", "do a digest", "save a 0 0 -> saved 0", "do a drop k75 -> gone", "save a 900 7 -> down", "mount a 5 5 -> down", "mount a", "look a", "save a")...)
}

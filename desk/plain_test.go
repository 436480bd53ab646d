package desk_test

import (
	"bytes"
	"fmt"
	"regexp"
	"strconv"
	"strings"
	"testing"

	"amnesty/api"
	"amnesty/desk"
	"amnesty/disk"
	"amnesty/keep"
	"amnesty/order"
	"amnesty/slots"
	"amnesty/swap"
)

// plain is a desk whose disks are lists of blocks, upon which the writes of P3.5 and P3.6 are made one by one.
type plain map[string]*spot

// spot is a place of it.
type spot struct {
	seed   uint64
	store  *keep.Store // nil while the place is down
	blocks []block
	saved  map[string][]byte // the records that belong to the bytes of a disk at rest
}

type block = [api.BlockSize]byte

// write is a block that is written.
type write struct {
	at int
	to block
}

// The forms of the lines; only numbers have bounds beyond them.
const (
	nameForm   = ` +([a-z0-9]{1,8})`
	seedForm   = ` +([0-9a-f]{16})`
	numberForm = ` +(0|[1-9][0-9]{0,8})`
	failForm   = `(?:` + numberForm + numberForm + `)?`
)

var (
	doForm = regexp.MustCompile(`^ *do` + nameForm + `(?: +(.*))?$`)
	forms  = map[*regexp.Regexp]func(p plain, w []string) string{
		regexp.MustCompile(`^ *open` + nameForm + seedForm + numberForm + ` *$`): plain.open,
		regexp.MustCompile(`^ *close` + nameForm + ` *$`):                        plain.close,
		regexp.MustCompile(`^ *save` + nameForm + failForm + ` *$`):              plain.save,
		regexp.MustCompile(`^ *mount` + nameForm + failForm + ` *$`):             plain.mount,
		regexp.MustCompile(`^ *mirror` + nameForm + nameForm + ` *$`):            plain.mirror,
		regexp.MustCompile(`^ *look` + nameForm + ` *$`):                         plain.look,
		regexp.MustCompile(`^ *size` + nameForm + ` *$`):                         plain.size,
	}
)

// answer returns the answer of a line.
func (p plain) answer(line string) string {
	foreign := func(c rune) bool { return c < 32 || c > 126 }
	if len(line) > 600 || strings.ContainsFunc(line, foreign) {
		return "bad"
	}
	if strings.Trim(line, " ") == "" {
		return ""
	}
	for form, run := range forms {
		if w := form.FindStringSubmatch(line); w != nil {
			return run(p, w[1:])
		}
	}
	if w := doForm.FindStringSubmatch(line); w != nil {
		return p.do(w[1], w[2])
	}
	return "bad"
}

// missing returns the answer that comes first of all if a place is not there, or down.
func (p plain) missing(names ...string) string {
	for _, name := range names {
		if p[name] == nil {
			return "none"
		}
	}
	for _, name := range names {
		if p[name].store == nil {
			return "down"
		}
	}
	return ""
}

func (p plain) open(w []string) string {
	seed, _ := strconv.ParseUint(w[1], 16, 64)
	cells, _ := strconv.Atoi(w[2])
	if cells < 8 || cells > 1024 {
		return "bad"
	}
	if p[w[0]] != nil {
		return "twice"
	}
	if len(p) == 8 {
		return "full"
	}
	s := &spot{seed: seed, store: keep.Open(seed), blocks: make([]block, 1+3*cells), saved: map[string][]byte{}}
	s.saved[string(s.bytes())] = keep.Open(seed).Records()
	p[w[0]] = s
	return "ok"
}

func (p plain) close(w []string) string {
	if p[w[0]] == nil {
		return "none"
	}
	delete(p, w[0])
	return "ok"
}

func (p plain) do(name, line string) string {
	if answer := p.missing(name); answer != "" {
		return answer
	}
	return p[name].store.Do(line)
}

func (p plain) save(w []string) string {
	if answer := p.missing(w[0]); answer != "" {
		return answer
	}
	s := p[w[0]]
	want, fits := plainBlocks(s.seed, len(s.blocks), s.store.Records())
	if !fits {
		return "full"
	}
	s.saved[string(join(want))] = s.store.Records()
	made, failed := s.make(commitWrites(s.seed, s.blocks, want), w)
	if failed {
		s.store = nil
		return "down"
	}
	return fmt.Sprint("saved ", made)
}

func (p plain) mount(w []string) string {
	s := p[w[0]]
	if s == nil {
		return "none"
	}
	s.store = nil
	made, failed := s.make(repairWrites(s.seed, s.blocks), w)
	if failed {
		return "down"
	}
	s.store, _ = keep.Load(s.seed, s.saved[string(s.bytes())])
	return fmt.Sprint("up ", made)
}

func (p plain) mirror(w []string) string {
	if answer := p.missing(w...); answer != "" {
		return answer
	}
	from, to := p[w[0]], p[w[1]]
	if w[0] == w[1] || from.seed != to.seed {
		return "bad"
	}
	messages, _ := swap.Mirror(mapOf(from.seed, from.store), mapOf(to.seed, to.store))
	to.store, _ = keep.Load(from.seed, from.store.Records())
	return fmt.Sprint(len(messages))
}

func (p plain) look(w []string) string {
	s := p[w[0]]
	if s == nil {
		return "none"
	}
	return fmt.Sprintf("%016x", slots.Coin(0, 7, append(s.store.Image(), s.bytes()...)))
}

func (p plain) size(w []string) string {
	s := p[w[0]]
	if s == nil {
		return "none"
	}
	return fmt.Sprintf("%d %d", s.store.Len(), len(s.store.Image())+64*len(s.blocks))
}

// mapOf returns the map of a store, by its pairs.
func mapOf(seed uint64, s *keep.Store) *order.Map {
	records, _ := order.Load(seed, s.Records())
	m := order.New(seed)
	for key, value := range records.All() {
		m.Put(key, value)
	}
	return m
}

func (s *spot) bytes() []byte { return join(s.blocks) }

func join(blocks []block) []byte {
	var all []byte
	for _, b := range blocks {
		all = append(all, b[:]...)
	}
	return all
}

func split(all []byte) []block {
	var blocks []block
	for len(all) > 0 {
		blocks = append(blocks, block(all))
		all = all[api.BlockSize:]
	}
	return blocks
}

// make makes the writes of a line, which may tell when the power fails; it returns how many it made whole.
func (s *spot) make(writes []write, w []string) (made int, failed bool) {
	power, torn := len(writes), 0
	if w[1] != "" {
		power, _ = strconv.Atoi(w[1])
		torn, _ = strconv.Atoi(w[2])
	}
	for i, each := range writes {
		if i == power {
			copy(s.blocks[each.at][:], each.to[:min(torn, api.BlockSize)])
			return i, true
		}
		s.blocks[each.at] = each.to
	}
	return len(writes), false
}

// plainBlocks returns a newly formatted disk to which the records were written in one commit, if they fit.
func plainBlocks(seed uint64, blocks int, records []byte) ([]block, bool) {
	d, err := disk.Format(seed, (blocks-1)/3)
	if err != api.OK {
		panic(err)
	}
	var changes []api.Change
	for at := 0; at < len(records); at += 2000 {
		changes = append(changes, api.Change{Name: fmt.Sprintf("r%03d", at/2000), Data: records[at:min(at+2000, len(records))]})
	}
	if d.Commit(changes, -1, 0) == api.ErrFull {
		return nil, false
	}
	return split(d.Bytes()), true
}

// commitWrites returns the writes of P3.5.
func commitWrites(seed uint64, from, to []block) []write {
	cells := (len(from) - 1) / 3
	var entries, changed, wipe []write
	var all []byte
	for c := range cells {
		at := 1 + 2*cells + c
		if from[at] == to[at] {
			continue
		}
		number, k := block{byte(c), byte(c >> 8)}, len(changed)
		entries = append(entries, write{1 + 2*k, number}, write{2 + 2*k, to[at]})
		all = append(append(all, number[:]...), to[at][:]...)
		changed = append(changed, write{at, to[at]})
		wipe = append(wipe, write{1 + 2*k, block{}}, write{2 + 2*k, block{}})
	}
	if len(changed) == 0 {
		return nil
	}
	list := append(entries, write{0, headerOf(seed, len(changed), all)})
	list = append(list, changed...)
	return append(append(list, write{0, block{}}), wipe...)
}

// headerOf returns the header of so many entries with these bytes.
func headerOf(seed uint64, entries int, all []byte) block {
	h := block{byte(entries), byte(entries >> 8)}
	coin := slots.Coin(seed, 5, all)
	for i := range 8 {
		h[4+i] = byte(coin >> (8 * i))
	}
	h[12] = 1
	return h
}

// repairWrites returns the writes of P3.6, for bytes whose entries are those of a commit, or were not yet written.
func repairWrites(seed uint64, blocks []block) []write {
	cells := (len(blocks) - 1) / 3
	var list []write
	n := int(blocks[0][0]) + int(blocks[0][1])<<8
	if n >= 1 && n <= cells && blocks[0] == headerOf(seed, n, join(blocks[1:1+2*n])) {
		for k := range n {
			number, to := blocks[1+2*k], blocks[2+2*k]
			at := 1 + 2*cells + int(number[0]) + int(number[1])<<8
			if blocks[at] != to {
				list = append(list, write{at, to})
			}
		}
	}
	for at := range 1 + 2*cells {
		if blocks[at] != (block{}) {
			list = append(list, write{at, block{}})
		}
	}
	return list
}

// run runs a script whose lines may be followed, behind an arrow, by the answers that they are to have. All answers have to be those of the plain desk, too.
func run(t *testing.T, lines ...string) []string {
	t.Helper()
	var script []string
	want := map[int]string{}
	for i, each := range lines {
		line, answer, given := strings.Cut(each, " -> ")
		script = append(script, line)
		if given {
			want[i] = answer
		}
	}
	answers := check(t, strings.Join(script, "\n"))
	for i, answer := range want {
		if answers[i] != answer {
			t.Fatalf("line %d, %q: %q, not %q", i, script[i], answers[i], answer)
		}
	}
	return answers
}

// check runs a script, whose answers have to be those of the plain desk.
func check(t *testing.T, script string) []string {
	t.Helper()
	answers, p := desk.Run(script), plain{}
	lines := strings.Split(script, "\n")
	if len(answers) != len(lines) {
		t.Fatalf("%d answers to %d lines", len(answers), len(lines))
	}
	for i, line := range lines {
		if want := p.answer(line); answers[i] != want {
			t.Fatalf("line %d, %.700q: %q, not %q; behind %.2000q", i, line, answers[i], want, lines[:i])
		}
	}
	return answers
}

// same checks that lines of one script, counted from behind if below 0, and those of another one have the same answers.
func same(t *testing.T, a []string, at int, b []string, other int) {
	t.Helper()
	if x, y := a[(at+len(a))%len(a)], b[(other+len(b))%len(b)]; x != y {
		t.Fatalf("%q is not %q", x, y)
	}
}

// recordLines returns the lines by which an empty store gets the records of an image (P6.3).
func recordLines(t *testing.T, seed uint64, image []byte) []string {
	t.Helper()
	records, err := order.Load(seed, image)
	if err != api.OK {
		t.Fatal(err)
	}
	var lines []string
	for key, value := range records.All() {
		x, y := int(value[0])<<8+int(value[1]), int(value[2])<<8+int(value[3])
		rest, holds := value[7:], []string(nil)
		for range value[6] {
			size := int(rest[0])
			holds = append(holds, fmt.Sprintf("hold %s %s", key, rest[1:1+size]))
			rest = rest[1+size:]
		}
		lines = append(append(lines, fmt.Sprintf(`put %s %d %d %d "%s"`, key, x, y, value[4], rest)), holds...)
		if value[5] == 1 {
			lines = append(lines, fmt.Sprintf("drop %s", key))
		}
	}
	s := keep.Open(seed)
	for _, line := range lines {
		s.Do(line)
	}
	if !bytes.Equal(s.Records(), image) {
		t.Fatal("the lines are not those of the records")
	}
	return lines
}

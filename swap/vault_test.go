package swap_test

import (
	"bytes"
	"fmt"
	"maps"
	"math"
	"math/rand"
	"slices"
	"strings"
	"testing"

	"amnesty/api"
	"amnesty/slots"
	"amnesty/swap"
)

// pads are the pads of a vault by their names. What the vault answers and shows is worked out from them alone, as P7.3 and P7.4 say it.
type pads map[string]string

// image is that of a table (P7.4).
func (p pads) image(t *testing.T, seed uint64) []byte {
	t.Helper()
	table := slots.New(seed)
	for name, pad := range p {
		if e := table.Put([]byte(name), []byte("\x01"+pad)); e != api.OK {
			t.Fatalf("Put of %q into the table: %d", name, e)
		}
	}
	return table.Image()
}

// check holds the bytes of a vault against the pads, and opens a sealed record of each name.
func (p pads) check(t *testing.T, seed uint64, v *swap.Vault) {
	t.Helper()
	if got, want := v.Image(), p.image(t, seed); !bytes.Equal(got, want) {
		t.Fatalf("Image: %x, expected %x", got, want)
	}
	for name, pad := range p {
		open(t, v, name, strings.Repeat("s", len(pad)), mixed(strings.Repeat("s", len(pad)), pad))
		open(t, v, name, pad, strings.Repeat("\x00", len(pad)))
	}
}

// vault returns a vault of the pads.
func (p pads) vault(t *testing.T, seed uint64) *swap.Vault {
	t.Helper()
	v := swap.NewVault(seed)
	for name, pad := range p {
		seal(t, v, name, "", pad)
	}
	return v
}

// mixed returns two texts of one length, byte by byte one xor the other.
func mixed(a, b string) string {
	var c []byte
	for i := range len(a) {
		c = append(c, a[i]^b[i])
	}
	return string(c)
}

// seal seals a record with a pad, and returns the sealed one. Data without bytes stand for as many of them as the pad has.
func seal(t *testing.T, v *swap.Vault, name, data, pad string) api.Sealed {
	t.Helper()
	if data == "" {
		data = strings.Repeat("d", len(pad))
	}
	s, e := v.Put(name, []byte(data), []byte(pad))
	if e != api.OK || s.Name != name || string(s.Bytes) != mixed(data, pad) {
		t.Fatalf("Put of %q, %q, %q: %d, %q", name, data, pad, e, s)
	}
	return s
}

// open opens a sealed record.
func open(t *testing.T, v *swap.Vault, name, sealed, want string) {
	t.Helper()
	if got, e := v.Open(api.Sealed{Name: name, Bytes: []byte(sealed)}); e != api.OK || string(got) != want {
		t.Fatalf("Open of %q, %q: %d, %q, expected %q", name, sealed, e, got, want)
	}
}

// shut checks that a sealed record is not opened.
func shut(t *testing.T, v *swap.Vault, name, sealed string, want api.Errno) {
	t.Helper()
	if got, e := v.Open(api.Sealed{Name: name, Bytes: []byte(sealed)}); e != want || len(got) != 0 {
		t.Fatalf("Open of %q, %q: %d, %q, expected %d", name, sealed, e, got, want)
	}
}

// refuse checks that a record is not sealed.
func refuse(t *testing.T, v *swap.Vault, name, data, pad string, want api.Errno) {
	t.Helper()
	if s, e := v.Put(name, []byte(data), []byte(pad)); e != want || s.Name != "" || len(s.Bytes) != 0 {
		t.Fatalf("Put of %q with %d and %d bytes: %d, %q, expected %d", name, len(data), len(pad), e, s, want)
	}
}

func forget(t *testing.T, v *swap.Vault, name string, want api.Errno) {
	t.Helper()
	if e := v.Forget(name); e != want {
		t.Fatalf("Forget of %q: %d, expected %d", name, e, want)
	}
}

// isAllowed is what P7.3 says of names.
func isAllowed(name string) bool {
	for _, c := range []byte(name) {
		if !bytes.Contains([]byte("abcdefghijklmnopqrstuvwxyz0123456789-."), []byte{c}) {
			return false
		}
	}
	return len(name) >= 1 && len(name) <= 16
}

func TestP7_3NewVault(t *testing.T) {
	for _, seed := range []uint64{0, 3, math.MaxUint64} {
		v := swap.NewVault(seed)
		pads{}.check(t, seed, v)
		if len(v.Image()) != 12 {
			t.Errorf("the image of an empty vault: %x", v.Image())
		}
		shut(t, v, "a", "", api.ErrNone)
		seal(t, v, "a", "yes", "\x01\x02\x03")
		pads{"a": "\x01\x02\x03"}.check(t, seed, v)
	}
	one, other := swap.NewVault(1), swap.NewVault(1)
	seal(t, one, "a", "", "pad")
	pads{}.check(t, 1, other)
}

func TestP7_3Example(t *testing.T) {
	v := swap.NewVault(42)
	s := seal(t, v, "note", "yes", "\x01\x02\x03")
	if string(s.Bytes) != "xgp" {
		t.Errorf("sealed to %q", s.Bytes)
	}
	open(t, v, "note", "xgp", "yes")
	if pad, e := swap.Explain(s, []byte("no!")); e != api.OK || string(pad) != string([]byte{22, 8, 81}) {
		t.Errorf("Explain: %d, %d", pad, e)
	}
}

// TestP7_3Names: each byte alone, and as the first, a middle and the last one of a name.
func TestP7_3Names(t *testing.T) {
	var names []string
	for c := range 256 {
		b := string([]byte{byte(c)})
		names = append(names, b, b+"ab", "a"+b+"b", "ab"+b, strings.Repeat(b, 16), strings.Repeat(b, 17))
	}
	names = append(names, "", "..", "-", ".", "a.b-c", "é", "日", "\xFFa", strings.Repeat("a", 15), strings.Repeat("z", 16), strings.Repeat("0", 17), strings.Repeat("a", 1000), "a ", " a", "a\n")
	for i, name := range names {
		v, p := swap.NewVault(uint64(i)), pads{"other": "pad"}
		seal(t, v, "other", "", "pad")
		if isAllowed(name) {
			seal(t, v, name, "data", "\x00\x01\xFEd")
			p[name] = "\x00\x01\xFEd"
		} else {
			refuse(t, v, name, "data", "1234", api.ErrArg)
			refuse(t, v, name, "", "", api.ErrArg)
			shut(t, v, name, "1234", api.ErrNone)
			shut(t, v, name, "", api.ErrNone)
			forget(t, v, name, api.ErrNone)
		}
		p.check(t, uint64(i), v)
	}
}

func TestP7_3Lengths(t *testing.T) {
	text := strings.Repeat("0123456789", 200)
	for _, n := range []int{0, 1, 2, 255, 256, 257, 998, 999, 1000, 1001, 1999} {
		for _, k := range []int{0, 1, 2, 255, 256, 257, 998, 999, 1000, 1001, 1999} {
			v := swap.NewVault(8)
			if n != k || n > 999 {
				refuse(t, v, "a", text[:n], text[:k], api.ErrArg)
				pads{}.check(t, 8, v)
				continue
			}
			if s := seal(t, v, "a", text[:n], text[1:][:n]); len(s.Bytes) != n {
				t.Errorf("%d bytes are sealed to %d", n, len(s.Bytes))
			}
			pads{"a": text[1:][:n]}.check(t, 8, v)
		}
	}
}

// TestP7_3NoBytes: data and pads without bytes are allowed, nil or not; the vault has a pad of the name then.
func TestP7_3NoBytes(t *testing.T) {
	for _, x := range [][2][]byte{{nil, nil}, {{}, nil}, {nil, {}}, {{}, {}}} {
		v := swap.NewVault(8)
		if s, e := v.Put("a", x[0], x[1]); e != api.OK || s.Name != "a" || len(s.Bytes) != 0 {
			t.Errorf("Put: %q, %d", s, e)
		}
		pads{"a": ""}.check(t, 8, v)
		if bytes.Equal(v.Image(), swap.NewVault(8).Image()) {
			t.Errorf("the pad is not in the image")
		}
		open(t, v, "a", "", "")
		if got, e := v.Open(api.Sealed{Name: "a"}); e != api.OK || len(got) != 0 {
			t.Errorf("Open: %q, %d", got, e)
		}
		shut(t, v, "a", "x", api.ErrForm)
		refuse(t, v, "a", "", "", api.ErrTwice)
		forget(t, v, "a", api.OK)
		pads{}.check(t, 8, v)
	}
}

// TestP7_3Twice: a name that has a pad keeps it; what is not allowed is told first.
func TestP7_3Twice(t *testing.T) {
	v, p := swap.NewVault(2), pads{"a": "pad"}
	seal(t, v, "a", "", "pad")
	for _, x := range []struct {
		name, data, pad string
		want            api.Errno
	}{
		{"a", "dat", "pad", api.ErrTwice},
		{"a", "other", "thing", api.ErrTwice},
		{"a", "", "", api.ErrTwice},
		{"a", "data", "pad", api.ErrArg},
		{"a", "", "pad", api.ErrArg},
		{"a", strings.Repeat("d", 1000), strings.Repeat("p", 1000), api.ErrArg},
		{"A", "dat", "pad", api.ErrArg},
	} {
		refuse(t, v, x.name, x.data, x.pad, x.want)
		p.check(t, 2, v)
	}
	forget(t, v, "a", api.OK)
	seal(t, v, "a", "", "other")
	pads{"a": "other"}.check(t, 2, v)
}

// TestP7_3Full: a vault takes MaxPairs pads; of one more, that the name has a pad is told ahead of that there is no room.
func TestP7_3Full(t *testing.T) {
	v, p := swap.NewVault(6), pads{}
	for i := range api.MaxPairs {
		name := fmt.Sprint(i)
		if _, e := v.Put(name, nil, nil); e != api.OK {
			t.Fatalf("Put of pad %d: %d", i, e)
		}
		p[name] = ""
	}
	full := v.Image()
	refuse(t, v, "more", "", "", api.ErrFull)
	refuse(t, v, "more", "data", "pads", api.ErrFull)
	refuse(t, v, "0", "data", "pads", api.ErrTwice)
	refuse(t, v, "More", "", "", api.ErrArg)
	refuse(t, v, "more", "", "x", api.ErrArg)
	shut(t, v, "more", "", api.ErrNone)
	forget(t, v, "more", api.ErrNone)
	if !bytes.Equal(v.Image(), full) || !bytes.Equal(full, p.image(t, 6)) {
		t.Fatalf("a full vault changed")
	}
	forget(t, v, "77", api.OK)
	seal(t, v, "more", "data", "pads")
	refuse(t, v, "77", "", "", api.ErrFull)
	forget(t, v, "more", api.OK)
	seal(t, v, "77", "", "")
	if !bytes.Equal(v.Image(), full) {
		t.Fatalf("the image tells what was forgotten")
	}
}

func TestP7_4Open(t *testing.T) {
	v := swap.NewVault(2)
	p := pads{"a": "\x00\xFF\x0F", "b": "", "c": strings.Repeat("\xAA", 999), "d": "1234"}
	for name, pad := range p {
		s := seal(t, v, name, "", pad)
		open(t, v, name, string(s.Bytes), strings.Repeat("d", len(pad)))
	}
	for name, pad := range p {
		for _, n := range []int{0, 1, 2, 3, 4, 5, 998, 999, 1000, 1001, 5000} {
			if n != len(pad) {
				shut(t, v, name, strings.Repeat("x", n), api.ErrForm)
			}
		}
	}
	open(t, v, "a", "abc", "a\x9Dl")
	open(t, v, "d", "1234", "\x00\x00\x00\x00")
	for _, name := range []string{"", "e", "A", "aa", "a\x00", strings.Repeat("a", 100), "\xFF"} {
		shut(t, v, name, "", api.ErrNone)
		shut(t, v, name, "1234", api.ErrNone)
		shut(t, v, name, strings.Repeat("x", 5000), api.ErrNone)
	}
	p.check(t, 2, v)
}

// TestP7_4OtherVaults: the pads of one vault open nothing in another one.
func TestP7_4OtherVaults(t *testing.T) {
	one, other := swap.NewVault(2), swap.NewVault(2)
	s := seal(t, one, "a", "data", "1234")
	if got, e := other.Open(s); e != api.ErrNone || len(got) != 0 {
		t.Errorf("Open: %q, %d", got, e)
	}
	seal(t, other, "a", "", "4321")
	if got, e := other.Open(s); e != api.OK || string(got) == "data" {
		t.Errorf("Open: %q, %d", got, e)
	}
	forget(t, other, "a", api.OK)
	if got, e := one.Open(s); e != api.OK || string(got) != "data" {
		t.Errorf("Open: %q, %d", got, e)
	}
}

func TestP7_4Forget(t *testing.T) {
	v := swap.NewVault(2)
	forget(t, v, "a", api.ErrNone)
	s := seal(t, v, "a", "data", "1234")
	seal(t, v, "b", "", "other")
	for _, name := range []string{"", "c", "A", "aa", "a ", strings.Repeat("a", 17)} {
		forget(t, v, name, api.ErrNone)
	}
	pads{"a": "1234", "b": "other"}.check(t, 2, v)
	forget(t, v, "a", api.OK)
	pads{"b": "other"}.check(t, 2, v)
	shut(t, v, "a", string(s.Bytes), api.ErrNone)
	shut(t, v, "a", "", api.ErrNone)
	forget(t, v, "a", api.ErrNone)
	forget(t, v, "b", api.OK)
	pads{}.check(t, 2, v)
}

// TestP7_4Image: an example of the bytes, and that they are those of a table (P7).
func TestP7_4Image(t *testing.T) {
	v := swap.NewVault(2)
	seal(t, v, "b", "", "xy")
	image := v.Image()
	if len(image) != 4+7+1+1+2+1+3 || !bytes.Contains(image, []byte("\x01\x01\x03\x00b\x01xy")) {
		t.Errorf("the image of one pad: %x", image)
	}
	for seed := range uint64(30) {
		p := anyPads(rand.New(rand.NewSource(int64(seed))))
		table, e := slots.Load(seed, p.vault(t, seed).Image())
		if e != api.OK || table.Len() != len(p) {
			t.Fatalf("Load of the image: %d", e)
		}
		for name, pad := range p {
			if value, e := table.Get([]byte(name)); e != api.OK || string(value) != "\x01"+pad {
				t.Fatalf("%q has the value %q, %d", name, value, e)
			}
		}
	}
}

// anyPads returns up to 40 pads.
func anyPads(r *rand.Rand) pads {
	p := pads{}
	for range r.Intn(40) {
		pad := make([]byte, []int{0, 1, 3, 20, 999}[r.Intn(5)])
		r.Read(pad)
		p[fmt.Sprint("n.", r.Intn(60))] = string(pad)
	}
	return p
}

// TestP7_4Histories runs vaults, and holds each answer and all bytes against a plain list of pads.
func TestP7_4Histories(t *testing.T) {
	names := []string{"a", "b", "c", "a-b", "0.1", "", "A", strings.Repeat("z", 16), strings.Repeat("z", 17)}
	for seed := range uint64(30) {
		r := rand.New(rand.NewSource(int64(seed)))
		v, p := swap.NewVault(seed), pads{}
		for range 100 {
			name := names[r.Intn(len(names))]
			pad, there := p[name]
			switch r.Intn(4) {
			case 0, 1:
				data, other := fmt.Sprint(r.Intn(1000)), fmt.Sprint(r.Intn(1000))
				switch {
				case len(data) != len(other) || !isAllowed(name):
					refuse(t, v, name, data, other, api.ErrArg)
				case there:
					refuse(t, v, name, data, other, api.ErrTwice)
				default:
					seal(t, v, name, data, other)
					p[name] = other
				}
			case 2:
				want := api.ErrNone
				if there {
					want = api.OK
				}
				forget(t, v, name, want)
				delete(p, name)
			default:
				sealed := fmt.Sprint(r.Intn(1000))
				switch {
				case !there:
					shut(t, v, name, sealed, api.ErrNone)
				case len(sealed) != len(pad):
					shut(t, v, name, sealed, api.ErrForm)
				default:
					open(t, v, name, sealed, mixed(sealed, pad))
				}
			}
			p.check(t, seed, v)
		}
	}
}

func TestP7_5Explain(t *testing.T) {
	long := strings.Repeat("long", 2000)
	for _, x := range []struct{ name, sealed, data string }{
		{"note", "xgp", "yes"},
		{"note", "xgp", "no!"},
		{"", "", ""},
		{"NOT A NAME", "1", "2"},
		{strings.Repeat("\xFF", 100), "\x00\xFF\x0F", "\xF0\xFF\x00"},
		{"a", long, long[1:] + "x"},
	} {
		pad, e := swap.Explain(api.Sealed{Name: x.name, Bytes: []byte(x.sealed)}, []byte(x.data))
		if e != api.OK || string(pad) != mixed(x.sealed, x.data) {
			t.Errorf("Explain of %q, %q, %q: %q, %d", x.name, x.sealed, x.data, pad, e)
		}
	}
	for _, x := range [][2]string{{"", "a"}, {"a", ""}, {"ab", "a"}, {"a", "ab"}, {long, long[1:]}} {
		pad, e := swap.Explain(api.Sealed{Name: "a", Bytes: []byte(x[0])}, []byte(x[1]))
		if e != api.ErrArg || len(pad) != 0 {
			t.Errorf("Explain of %d bytes by %d: %q, %d", len(x[0]), len(x[1]), pad, e)
		}
	}
	if pad, e := swap.Explain(api.Sealed{}, nil); e != api.OK || len(pad) != 0 {
		t.Errorf("Explain of nothing: %q, %d", pad, e)
	}
}

// TestT7OnePad: each record of the length of sealed bytes is sealed to them by exactly one pad, the one that Explain tells.
func TestT7OnePad(t *testing.T) {
	for sealed := range 256 {
		for data := range 256 {
			told, e := swap.Explain(api.Sealed{Bytes: []byte{byte(sealed)}}, []byte{byte(data)})
			if e != api.OK || len(told) != 1 {
				t.Fatalf("Explain: %q, %d", told, e)
			}
			for _, pad := range []byte{told[0], told[0] + 1, byte(sealed), byte(data)} {
				s, e := swap.NewVault(1).Put("a", []byte{byte(data)}, []byte{pad})
				if e != api.OK || (s.Bytes[0] == byte(sealed)) != (pad == told[0]) {
					t.Fatalf("%d with the pad %d is sealed to %d; %d is sealed to %d by the pad %d", data, pad, s.Bytes, data, sealed, told)
				}
			}
		}
	}
}

// TestT7LongRecords: sealed bytes are those of any other record, too: by the pad that Explain tells, and that opens them as that record.
func TestT7LongRecords(t *testing.T) {
	for seed := range uint64(40) {
		r := rand.New(rand.NewSource(int64(seed)))
		data, pad, other := make([]byte, r.Intn(1000)), make([]byte, 999), make([]byte, 999)
		r.Read(data)
		r.Read(pad)
		r.Read(other)
		pad, other = pad[:len(data)], other[:len(data)]
		s := seal(t, swap.NewVault(seed), "a", string(data), string(pad))
		if told, e := swap.Explain(s, data); e != api.OK || !bytes.Equal(told, pad) {
			t.Fatalf("Explain of the record itself: %x, %d, expected %x", told, e, pad)
		}
		told, e := swap.Explain(s, other)
		if e != api.OK {
			t.Fatalf("Explain: %d", e)
		}
		v := swap.NewVault(seed)
		if again := seal(t, v, "a", string(other), string(told)); !bytes.Equal(again.Bytes, s.Bytes) {
			t.Fatalf("sealed to %x, expected %x", again.Bytes, s.Bytes)
		}
		open(t, v, "a", string(s.Bytes), string(other))
	}
}

// TestT7Forgetting: a vault that has forgotten pads has the image of one that never had them, in whatever order all came and went.
func TestT7Forgetting(t *testing.T) {
	for seed := range uint64(40) {
		r := rand.New(rand.NewSource(int64(seed)))
		p, gone := anyPads(r), anyPads(r)
		v := swap.NewVault(seed)
		names := slices.Sorted(maps.Keys(p))
		for name := range gone {
			seal(t, v, name, "", gone[name])
			if r.Intn(2) == 0 {
				forget(t, v, name, api.OK)
				delete(gone, name)
			}
		}
		for _, i := range r.Perm(len(names)) {
			if _, there := gone[names[i]]; there {
				forget(t, v, names[i], api.OK)
				delete(gone, names[i])
			}
			seal(t, v, names[i], "", p[names[i]])
		}
		for name := range gone {
			forget(t, v, name, api.OK)
			shut(t, v, name, gone[name], api.ErrNone)
		}
		p.check(t, seed, v)
		if !bytes.Equal(v.Image(), p.vault(t, seed).Image()) {
			t.Fatalf("the image tells of what was forgotten")
		}
	}
}

// TestP1NilAndZeroVaults: they are asked like an empty one, and not changed; all errors that apply to them are ErrArg or ErrNone.
func TestP1NilAndZeroVaults(t *testing.T) {
	for _, v := range []*swap.Vault{nil, {}, new(swap.Vault)} {
		for _, name := range []string{"a", "", "A"} {
			refuse(t, v, name, "data", "pads", api.ErrArg)
			refuse(t, v, name, "", "", api.ErrArg)
			refuse(t, v, name, "", "pad", api.ErrArg)
			shut(t, v, name, "data", api.ErrNone)
			shut(t, v, name, "", api.ErrNone)
			forget(t, v, name, api.ErrArg)
		}
		if len(v.Image()) != 0 {
			t.Errorf("the image of no vault: %x", v.Image())
		}
	}
}

// TestP1CopiedVaults: a value that a caller copies is the vault still.
func TestP1CopiedVaults(t *testing.T) {
	v := swap.NewVault(1)
	copied := *v
	for i := range 20 {
		seal(t, v, fmt.Sprint("a", i), "", "pad")
		seal(t, &copied, fmt.Sprint("b", i), "", "pad")
	}
	forget(t, v, "b7", api.OK)
	refuse(t, &copied, "a3", "", "", api.ErrTwice)
	if !bytes.Equal(v.Image(), copied.Image()) {
		t.Errorf("a copied vault is another one")
	}
}

// TestP3VaultMemory: neither arguments nor results share memory with the vault or with each other.
func TestP3VaultMemory(t *testing.T) {
	v, p := swap.NewVault(1), pads{"a": "1234", "b": ""}
	seal(t, v, "b", "", "")
	data, pad := []byte("data and more")[:4], []byte("1234 and more")[:4]
	s, e := v.Put("a", data, pad)
	if e != api.OK || string(data[:13]) != "data and more" || string(pad[:13]) != "1234 and more" {
		t.Fatalf("Put modified its arguments: %q, %q, %d", data[:13], pad[:13], e)
	}
	spoil(data, pad)
	p.check(t, 1, v)
	if string(s.Bytes) != mixed("data", "1234") {
		t.Errorf("the sealed bytes changed with the arguments")
	}
	got, e := v.Open(s)
	other, _ := v.Open(s)
	if e != api.OK || string(s.Bytes) != mixed("data", "1234") {
		t.Fatalf("Open modified its argument: %q, %d", s.Bytes, e)
	}
	spoil(s.Bytes)
	if string(got) != "data" {
		t.Errorf("the record changed with the sealed bytes")
	}
	spoil(got)
	if string(other) != "data" {
		t.Errorf("the record changed with another result")
	}
	spoil(other, v.Image())
	p.check(t, 1, v)
}

// TestP3ExplainMemory: so it is with what is explained.
func TestP3ExplainMemory(t *testing.T) {
	s, data := api.Sealed{Name: "a", Bytes: []byte("xgp")}, []byte("no!")
	pad, e := swap.Explain(s, data)
	if e != api.OK || string(s.Bytes) != "xgp" || string(data) != "no!" {
		t.Fatalf("Explain modified its arguments: %q, %q, %d", s.Bytes, data, e)
	}
	spoil(s.Bytes, data)
	if string(pad) != mixed("xgp", "no!") {
		t.Errorf("the pad changed with the arguments")
	}
}

// TestP4VaultsApart: vaults of one seed, and of others, know nothing of each other.
func TestP4VaultsApart(t *testing.T) {
	one, other := pads{"a": "1", "b": "22"}, pads{"b": "333", "c": ""}
	for seed := range uint64(5) {
		v, w := one.vault(t, seed), other.vault(t, seed)
		forget(t, w, "b", api.OK)
		forget(t, v, "c", api.ErrNone)
		one.check(t, seed, v)
		pads{"c": ""}.check(t, seed, w)
	}
}

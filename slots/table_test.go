package slots_test

import (
	"bytes"
	"math"
	"math/rand"
	"strconv"
	"strings"
	"testing"

	"amnesty/api"
	"amnesty/slots"
)

// Keys of which each two of a row have one rank and one home of 8 and of 16 cells, with the seed 1. They were found apart from this program, by reducing a lattice of the differences that Coin's products let vanish.
const (
	twinLow, twinHigh   = "A*Lf68*yl,Cy-NNA2a", "IpKZK.7v7a=f8CCE,Q"
	otherLow, otherHigh = "sW.z+5czVOp=inR0dV", "ui18jko36s/n*-Hm,j"
)

func TestP1_3Cells(t *testing.T) {
	table := slots.New(3)
	want := func(n int) {
		t.Helper()
		if got := len(table.Cells()); got != plainCount(n) || table.Len() != n {
			t.Errorf("%d pairs: %d pairs in %d cells, expected %d", n, table.Len(), got, plainCount(n))
		}
	}
	for n, cells := range map[int]int{0: 8, 6: 8, 7: 16, 12: 16, 13: 32, 24: 32, 25: 64, 48: 64, 49: 128, 100: 256} {
		if plainCount(n) != cells {
			t.Fatalf("the plain number of cells of %d pairs: %d", n, plainCount(n))
		}
	}
	for n := range 100 {
		want(n)
		put(t, table, strconv.Itoa(n), "v")
	}
	for n := 100; n > 0; n-- {
		want(n)
		drop(t, table, strconv.Itoa(n-1))
	}
	want(0)
}

// TestP1_3Shapes lets a table grow and shrink, back and forth over the bounds of 6 and 12 pairs too, and holds it against its content after each call.
func TestP1_3Shapes(t *testing.T) {
	for seed := range uint64(60) {
		r := rand.New(rand.NewSource(int64(seed)))
		most := []int{4, 6, 7, 13, 30, 60}[seed%6]
		table, content := slots.New(seed), plain{}
		for range 150 {
			key, value := "k"+strconv.Itoa(r.Intn(2*most)), strings.Repeat("v", r.Intn(4))
			_, there := content[key]
			switch {
			case !there && len(content) < most:
				put(t, table, key, value)
				content[key] = value
			case there && r.Intn(3) == 0:
				put(t, table, key, value)
				content[key] = value
			case there:
				drop(t, table, key)
				delete(content, key)
			}
			content.check(t, seed, table, "k0", "k1", "k2", "other", "")
		}
	}
}

// TestP1_3LargeShapes: tables that grow to some thousand pairs, and lose most of them.
func TestP1_3LargeShapes(t *testing.T) {
	const n, seed = 5000, math.MaxUint64
	table, content := slots.New(seed), plain{}
	for i := range n {
		key := strconv.Itoa(i * 7)
		put(t, table, key, "x")
		content[key] = "x"
	}
	content.checkCells(t, seed, table)
	for i := range n {
		if i%10 != 3 {
			key := strconv.Itoa(i * 7)
			drop(t, table, key)
			delete(content, key)
		}
	}
	content.checkCells(t, seed, table)
	if !bytes.Equal(table.Image(), content.image(seed)) {
		t.Errorf("a table that lost most of its pairs has another image than one that never had them")
	}
}

func TestP1_3EqualRanks(t *testing.T) {
	for _, x := range [][2]string{{twinLow, twinHigh}, {otherLow, otherHigh}} {
		low, high := x[0], x[1]
		if low >= high || rankOf(1, low) != rankOf(1, high) || homeOf(1, low, 16) != homeOf(1, high, 16) {
			t.Fatalf("%q and %q are no twins", low, high)
		}
		home := homeOf(1, low, 8)
		for _, keys := range [][]string{{low, high}, {high, low}} {
			table := slots.New(1)
			for _, k := range keys {
				put(t, table, k, "v")
			}
			plain{low: "v", high: "v"}.check(t, 1, table)
			if c := table.Cells(); string(c[home].Key) != low || string(c[(home+1)%8].Key) != high {
				t.Errorf("of two keys of one rank, the lesser one does not lie first")
			}
			drop(t, table, low)
			plain{high: "v"}.check(t, 1, table, low)
			if table.Looks([]byte(low)) != 1 || table.Looks([]byte(high)) != 1 {
				t.Errorf("the search for the lesser key goes on behind the greater one of one rank")
			}
			put(t, table, low, "v")
			drop(t, table, high)
			plain{low: "v"}.check(t, 1, table, high)
			if table.Looks([]byte(high)) != 2 {
				t.Errorf("the search for the greater key ends at the lesser one of one rank")
			}
		}
	}
}

// TestP1_3EqualRanksAmongOthers: twins in a table that grows and shrinks around them.
func TestP1_3EqualRanksAmongOthers(t *testing.T) {
	content := plain{twinLow: "1", twinHigh: "2", otherLow: "3", otherHigh: "4"}
	table := content.tableOf(t, 1)
	for i := range 20 {
		key := strconv.Itoa(i)
		put(t, table, key, "v")
		content[key] = "v"
		content.check(t, 1, table)
	}
	for _, key := range []string{otherLow, twinHigh} {
		drop(t, table, key)
		delete(content, key)
		content.check(t, 1, table, otherLow, twinHigh)
	}
}

// TestT1OneShape: whatever came in whatever order, and went again, one content has one image (T1), and what went left nothing (T4).
func TestT1OneShape(t *testing.T) {
	for seed := range uint64(40) {
		r := rand.New(rand.NewSource(int64(seed)))
		content := plain{}
		for i := range r.Intn(40) {
			content["k"+strconv.Itoa(i)] = strconv.Itoa(r.Intn(1000))
		}
		want := content.image(seed)
		for range 4 {
			table := slots.New(seed)
			keys := content.keys()
			for _, i := range r.Perm(len(keys)) {
				put(t, table, "gone"+strconv.Itoa(i%7), "anything")
				put(t, table, keys[i], "another value")
			}
			for _, i := range r.Perm(len(keys)) {
				put(t, table, keys[i], content[keys[i]])
			}
			for i := range min(7, len(keys)) {
				drop(t, table, "gone"+strconv.Itoa(i))
			}
			if !bytes.Equal(table.Image(), want) {
				t.Fatalf("seed %d: a table of %d pairs has another image than its content", seed, len(keys))
			}
			content.check(t, seed, table, "gone1")
		}
	}
}

func TestT1Examples(t *testing.T) {
	a, b, c := slots.New(9), slots.New(9), slots.New(9)
	put(t, a, "a", "1")
	put(t, a, "b", "2")
	put(t, a, "a", "3")
	put(t, b, "b", "2")
	put(t, b, "a", "3")
	put(t, c, "c", "4")
	put(t, c, "a", "3")
	put(t, c, "b", "2")
	drop(t, c, "c")
	if !bytes.Equal(a.Image(), b.Image()) || !bytes.Equal(a.Image(), c.Image()) {
		t.Errorf("one content has several images:\n%v\n%v\n%v", a.Image(), b.Image(), c.Image())
	}
}

func TestP1_5New(t *testing.T) {
	for _, seed := range []uint64{0, 1, math.MaxUint64} {
		table := slots.New(seed)
		if table.Len() != 0 || !bytes.Equal(table.Image(), make([]byte, 12)) {
			t.Errorf("a new table: %d pairs, the image %v", table.Len(), table.Image())
		}
		plain{}.check(t, seed, table, "", "a", strings.Repeat("b", 1000))
		if table.Looks([]byte("a")) != 1 || table.Looks(nil) != 1 {
			t.Errorf("Looks in a new table: %d, %d", table.Looks([]byte("a")), table.Looks(nil))
		}
	}
	one, other := slots.New(1), slots.New(1)
	put(t, one, "a", "b")
	if other.Len() != 0 {
		t.Errorf("two new tables are one")
	}
}

// TestP1_5SeedsMatter: the seed of New is the one by which pairs lie.
func TestP1_5SeedsMatter(t *testing.T) {
	content := plain{"a": "1", "b": "2", "c": "3", "d": "4"}
	one, other := content.tableOf(t, 1).Image(), content.tableOf(t, 2).Image()
	if bytes.Equal(one, other) {
		t.Errorf("tables of two seeds have one image")
	}
}

func TestP1_7PutRefuses(t *testing.T) {
	content := plain{"a": "1", "b": ""}
	table := content.tableOf(t, 4)
	long := make([]byte, 2000)
	for _, x := range []struct {
		what       string
		key, value []byte
	}{
		{"a nil key", nil, []byte("v")},
		{"a key without bytes", []byte{}, nil},
		{"a key that is too long", long[:api.MaxKey+1], nil},
		{"a key that is much too long", long, nil},
		{"a value that is too long", []byte("a"), long[:api.MaxValue+1]},
		{"a value that is much too long", []byte("c"), long},
		{"both", nil, long},
	} {
		if e := table.Put(x.key, x.value); e != api.ErrArg {
			t.Errorf("Put of %s: %d, expected ErrArg", x.what, e)
		}
		content.check(t, 4, table, "c")
	}
}

func TestP1_7PutTakesLongAndShort(t *testing.T) {
	content, table := plain{}, slots.New(8)
	for _, x := range []struct{ key, value string }{
		{strings.Repeat("k", api.MaxKey), strings.Repeat("v", api.MaxValue)},
		{strings.Repeat("k", api.MaxKey-1), strings.Repeat("v", 256)},
		{"\x00", ""},
		{"\xFF", "\x00"},
		{"\x00\x00", strings.Repeat("\x00", 255)},
		{strings.Repeat("\x00", api.MaxKey), strings.Repeat("\xFF", 300)},
		{"k", strings.Repeat("w", api.MaxValue)},
	} {
		put(t, table, x.key, x.value)
		content[x.key] = x.value
		content.check(t, 8, table)
	}
}

func TestP1_7PutChangesValues(t *testing.T) {
	table := slots.New(2)
	for _, v := range []string{"one", "", "another, longer one", "x"} {
		put(t, table, "a", v)
		plain{"a": v}.check(t, 2, table, "b")
	}
	with, without := slots.New(2), slots.New(2)
	if with.Put([]byte("a"), []byte{}) != api.OK || without.Put([]byte("a"), nil) != api.OK {
		t.Errorf("a value without bytes is refused")
	}
	if !bytes.Equal(with.Image(), without.Image()) {
		t.Errorf("nil and no bytes are two values")
	}
}

// TestP1_7Full fills a table.
func TestP1_7Full(t *testing.T) {
	const seed = 77
	table, content := slots.New(seed), plain{}
	for i := range api.MaxPairs {
		put(t, table, strconv.Itoa(i), "")
		content[strconv.Itoa(i)] = ""
	}
	if !bytes.Equal(table.Image(), content.image(seed)) {
		t.Fatalf("a full table has another image than its content")
	}
	if e := table.Put([]byte("new"), nil); e != api.ErrFull {
		t.Errorf("Put of a new key into a full table: %d, expected ErrFull", e)
	}
	if e := table.Put(nil, nil); e != api.ErrArg {
		t.Errorf("Put of a key that is not allowed into a full table: %d, expected ErrArg", e)
	}
	if _, e := table.Get([]byte("new")); e != api.ErrNone || !bytes.Equal(table.Image(), content.image(seed)) {
		t.Errorf("a refused key changed the table")
	}
	put(t, table, "5", "changed")
	content["5"] = "changed"
	drop(t, table, "6")
	delete(content, "6")
	put(t, table, "new", "v")
	content["new"] = "v"
	if e := table.Put([]byte("6"), nil); e != api.ErrFull {
		t.Errorf("Put into a table that is full again: %d, expected ErrFull", e)
	}
	image := content.image(seed)
	if !bytes.Equal(table.Image(), image) {
		t.Errorf("a full table that was changed has another image than its content")
	}
	if loaded, e := slots.Load(seed, image); e != api.OK || loaded.Len() != api.MaxPairs {
		t.Errorf("Load of a full table: %d", e)
	}
	content["one more"] = ""
	if loaded, e := slots.Load(seed, content.image(seed)); e != api.ErrForm || loaded != nil {
		t.Errorf("Load of MaxPairs + 1 pairs: %d, expected ErrForm", e)
	}
}

func TestP1_8Drop(t *testing.T) {
	content := plain{"a": "1", "b": "2", "c": ""}
	table := content.tableOf(t, 6)
	for _, key := range [][]byte{nil, {}, []byte("d"), []byte("aa"), make([]byte, api.MaxKey+1), make([]byte, 5000)} {
		if e := table.Drop(key); e != api.ErrNone {
			t.Errorf("Drop of %d bytes that are not there: %d, expected ErrNone", len(key), e)
		}
		content.check(t, 6, table)
	}
	for _, key := range []string{"b", "c", "a"} {
		drop(t, table, key)
		delete(content, key)
		content.check(t, 6, table, key)
		if e := table.Drop([]byte(key)); e != api.ErrNone {
			t.Errorf("Drop(%q), again: %d, expected ErrNone", key, e)
		}
	}
	if !bytes.Equal(table.Image(), make([]byte, 12)) {
		t.Errorf("an emptied table is not like a new one: %v", table.Image())
	}
}

func TestP1_9Get(t *testing.T) {
	table := plain{"a": "xy", "b": ""}.tableOf(t, 1)
	for _, key := range [][]byte{nil, {}, []byte("c"), []byte("ab"), []byte("a\x00"), make([]byte, api.MaxKey+1)} {
		if v, e := table.Get(key); v != nil || e != api.ErrNone {
			t.Errorf("Get(%q): %v, %d, expected ErrNone", key, v, e)
		}
	}
	if v, e := table.Get([]byte("a")); string(v) != "xy" || e != api.OK {
		t.Errorf("Get(a): %q, %d", v, e)
	}
	if v, e := table.Get([]byte("b")); len(v) != 0 || e != api.OK {
		t.Errorf("Get(b): %q, %d", v, e)
	}
}

func TestP1_10NilAndZeroTables(t *testing.T) {
	zero := &slots.Table{}
	for name, table := range map[string]*slots.Table{"nil": nil, "zero": zero} {
		for _, key := range [][]byte{nil, []byte("a"), make([]byte, 100)} {
			if e := table.Put(key, nil); e != api.ErrArg {
				t.Errorf("%s: Put: %d, expected ErrArg", name, e)
			}
			if e := table.Drop(key); e != api.ErrArg {
				t.Errorf("%s: Drop: %d, expected ErrArg", name, e)
			}
			if v, e := table.Get(key); v != nil || e != api.ErrNone {
				t.Errorf("%s: Get: %v, %d, expected ErrNone", name, v, e)
			}
			if n := table.Looks(key); n != 0 {
				t.Errorf("%s: Looks: %d", name, n)
			}
		}
		if table.Len() != 0 || len(table.Cells()) != 0 || len(table.Image()) != 0 {
			t.Errorf("%s: %d pairs, %d cells, the image %v", name, table.Len(), len(table.Cells()), table.Image())
		}
	}
}

// TestP1_10CopiedTables: a Table that a caller copied is none that a function of the package has returned, and yet nothing may hang or break.
func TestP1_10CopiedTables(t *testing.T) {
	table := plain{"a": "1"}.tableOf(t, 1)
	copied := *table
	for i := range 6 {
		copied.Put([]byte{'c', byte(i)}, nil)
		table.Put([]byte{'t', byte(i)}, nil)
	}
	for range 2 {
		copied.Drop([]byte{'t', 1})
		table.Drop([]byte{'c', 1})
	}
	copied.Looks([]byte("b"))
	if loaded, e := slots.Load(1, table.Image()); e != api.OK || loaded.Len() != table.Len() {
		t.Errorf("the image of a table whose copy was changed cannot be loaded: %d", e)
	}
}

func TestP1_11Looks(t *testing.T) {
	content := plain{}
	for i := range 48 {
		content[strconv.Itoa(i)] = "v"
	}
	table := content.tableOf(t, 10)
	cells := table.Cells()
	longest := 0
	for i := range 2000 {
		key := strconv.Itoa(i)
		n := table.Looks([]byte(key))
		last := cells[(homeOf(10, key, len(cells))+n-1)%len(cells)]
		if _, there := content[key]; there != (last.Full && string(last.Key) == key) {
			t.Fatalf("Looks(%q) is %d, and the last of these cells has %q", key, n, last.Key)
		}
		if want := content.looks(10, key); n != want {
			t.Fatalf("Looks(%q): %d, expected %d", key, n, want)
		}
		longest = max(longest, n)
	}
	if longest < 4 {
		t.Errorf("the longest search looks at %d cells: the test shows little", longest)
	}
	for n := range 200 {
		if key := strings.Repeat("x", n); table.Looks([]byte(key)) != content.looks(10, key) {
			t.Fatalf("Looks of %d bytes: %d, expected %d", n, table.Looks([]byte(key)), content.looks(10, key))
		}
	}
}

// TestP3Memory: what is handed in or out may be written over afterwards.
func TestP3Memory(t *testing.T) {
	const seed = 3
	content := plain{"key": "value", "other": "words", "none": ""}
	table := content.tableOf(t, seed)
	key, value := []byte("key"), []byte("value")
	table.Put(key, value)
	spoil(key, value)
	content.check(t, seed, table)

	key, value = []byte("new"), []byte("thing")
	table.Put(key, value)
	content["new"] = "thing"
	spoil(key, value)
	content.check(t, seed, table)

	for _, k := range []string{"key", "new"} {
		v, _ := table.Get([]byte(k))
		spoil(v)
	}
	content.check(t, seed, table)
	for _, c := range table.Cells() {
		spoil(c.Key, c.Value)
	}
	spoil(table.Image())
	content.check(t, seed, table)

	image := table.Image()
	loaded, _ := slots.Load(seed, image)
	spoil(image)
	content.check(t, seed, loaded)
}

// TestP3Results: no two results share memory, nor do two slices of one result.
func TestP3Results(t *testing.T) {
	content := plain{"key": "value", "other": "words", "none": ""}
	table := content.tableOf(t, 3)
	one, other := table.Cells(), table.Cells()
	for i, c := range one {
		c.Key = append(c.Key, "#############"...)
		c.Value = append(c.Value, "#############"...)
		spoil(c.Key)
		if c.Full && string(other[i].Value) != content[string(other[i].Key)] {
			t.Errorf("cell %d of one result changed with that of another one", i)
		}
		if c.Full && string(c.Value) != content[string(other[i].Key)]+"#############" {
			t.Errorf("the value of cell %d changed with its key", i)
		}
		if _, there := content[string(other[i].Key)]; c.Full && !there {
			t.Errorf("the key of cell %d of one result changed with that of another one", i)
		}
	}
	a, _ := table.Get([]byte("key"))
	b, _ := table.Get([]byte("key"))
	spoil(a)
	if string(b) != "value" {
		t.Errorf("two results of Get share memory")
	}
	x, y := table.Image(), table.Image()
	spoil(x)
	if !bytes.Equal(y, content.image(3)) {
		t.Errorf("two results of Image share memory")
	}
}

// TestP3ArgumentsStay: arguments are not modified.
func TestP3ArgumentsStay(t *testing.T) {
	table := slots.New(1)
	key, value := []byte("key and more")[:3], []byte("value and more")[:5]
	table.Put(key, value)
	table.Get(key)
	table.Looks(key)
	image := table.Image()
	slots.Load(1, image)
	table.Drop(key)
	if string(key[:12]) != "key and more" || string(value[:14]) != "value and more" || !bytes.Equal(image, plain{"key": "value"}.image(1)) {
		t.Errorf("an argument was modified")
	}
}

// spoil writes over all bytes of some slices, as far as their memory reaches.
func spoil(slices ...[]byte) {
	for _, s := range slices {
		s = s[:cap(s)]
		for i := range s {
			s[i] ^= 0xA5
		}
	}
}

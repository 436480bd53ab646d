package order_test

import (
	"slices"
	"strconv"
	"strings"
	"testing"

	"amnesty/api"
	"amnesty/order"
)

func TestP2_5PutRefuses(t *testing.T) {
	content := plain{"a": "1", "b": ""}
	m := content.mapOf(t, 4)
	long := make([]byte, 2000)
	for _, x := range []struct {
		what       string
		key, value []byte
	}{
		{"a nil key", nil, []byte("v")},
		{"a key without bytes", []byte{}, nil},
		{"a key that is too long", long[:api.MaxKey+1], nil},
		{"a key that is much too long", long, nil},
		{"a value that is too long", []byte("a"), long[:api.MaxValue+1]},
		{"a value that is much too long", []byte("c"), long},
		{"both", nil, long},
	} {
		if e := m.Put(x.key, x.value); e != api.ErrArg {
			t.Errorf("Put of %s: %d, expected ErrArg", x.what, e)
		}
		content.check(t, 4, m, "c")
	}
}

func TestP2_5PutTakesLongAndShort(t *testing.T) {
	content, m := plain{}, order.New(8)
	for _, x := range []struct{ key, value string }{
		{strings.Repeat("k", api.MaxKey), strings.Repeat("v", api.MaxValue)},
		{strings.Repeat("k", api.MaxKey-1), strings.Repeat("v", 256)},
		{"\x00", ""},
		{"\xFF", "\x00"},
		{"\x00\x00", strings.Repeat("\x00", 255)},
		{strings.Repeat("\x00", api.MaxKey), strings.Repeat("\xFF", 300)},
		{"k", strings.Repeat("w", api.MaxValue)},
	} {
		put(t, m, x.key, x.value)
		content[x.key] = x.value
		content.check(t, 8, m, "", "\x00\x00\x00", strings.Repeat("k", api.MaxKey+1), strings.Repeat("\xFF", 5000))
	}
}

func TestP2_5PutChangesValues(t *testing.T) {
	content := plain{"a": "", "b": "1", "c": "2", "d": "3"}
	m := content.mapOf(t, 2)
	for _, v := range []string{"one", "", "another, longer one", "x", "x"} {
		for _, k := range []string{"a", "c"} {
			put(t, m, k, v)
			content[k] = v
			content.check(t, 2, m, "bb")
		}
	}
	with, without := order.New(2), order.New(2)
	if with.Put([]byte("a"), []byte{}) != api.OK || without.Put([]byte("a"), nil) != api.OK {
		t.Errorf("a value without bytes is refused")
	}
	if with.Digest() != without.Digest() || string(with.Image()) != string(without.Image()) {
		t.Errorf("nil and no bytes are two values")
	}
}

func TestP2_5Drop(t *testing.T) {
	content := plain{"a": "1", "b": "2", "c": "", "d": "4"}
	m := content.mapOf(t, 6)
	for _, key := range [][]byte{nil, {}, []byte("e"), []byte("aa"), make([]byte, api.MaxKey+1), make([]byte, 5000)} {
		if e := m.Drop(key); e != api.ErrNone {
			t.Errorf("Drop of %d bytes that are not there: %d, expected ErrNone", len(key), e)
		}
		content.check(t, 6, m)
	}
	for _, key := range []string{"b", "d", "c", "a"} {
		drop(t, m, key)
		delete(content, key)
		content.check(t, 6, m, key)
		if e := m.Drop([]byte(key)); e != api.ErrNone {
			t.Errorf("Drop(%q), again: %d, expected ErrNone", key, e)
		}
	}
}

func TestP2_6RankAndAt(t *testing.T) {
	m := plain{"a": "1", "c": "2", "e": "3"}.mapOf(t, 3)
	for key, want := range map[string]int{"": 0, "a": 0, "a\x00": 1, "b": 1, "c": 1, "d": 2, "e": 2, "f": 3, strings.Repeat("\xFF", 100): 3} {
		if r := m.Rank([]byte(key)); r != want {
			t.Errorf("Rank(%q): %d, expected %d", key, r, want)
		}
	}
	if m.Rank(nil) != 0 {
		t.Errorf("Rank of no bytes: %d", m.Rank(nil))
	}
	if x, e := m.At(2); string(x.Key) != "e" || string(x.Value) != "3" || e != api.OK {
		t.Errorf("At(2): %v, %d", x, e)
	}
	if x, e := m.At(3); x.Key != nil || x.Value != nil || e != api.ErrNone {
		t.Errorf("At(3): %v, %d", x, e)
	}
}

// TestP2_7Spans: all spans between the keys of a map, keys between them, and bytes that are no keys.
func TestP2_7Spans(t *testing.T) {
	content := plain{"a": "1", "c": "", "e": "3", "e\x00": "4", "g": "5"}
	ends := []string{"", "\x00", "a", "b", "c", "d", "e", "e\x00", "e\x00\x00", "f", "g", "h", strings.Repeat("\xFF", 70)}
	for seed := range uint64(10) {
		m := content.mapOf(t, seed)
		for _, low := range ends {
			for _, high := range ends {
				content.checkSpan(t, seed, m, low, high, true)
				content.checkSpan(t, seed, m, low, high, false)
			}
		}
		content.check(t, seed, m)
	}
	m := content.mapOf(t, 1)
	if n, d := m.SpanDigest(nil, nil, false); n != 5 || d != m.Digest() {
		t.Errorf("SpanDigest of all pairs: %d, %#x", n, d)
	}
	if n, d := m.SpanDigest(nil, nil, true); n != 0 || d != 0 || len(m.Span(nil, nil, true)) != 0 {
		t.Errorf("a bounded span up to no bytes: %d, %#x", n, d)
	}
}

// listed returns the keys that an iteration yields, one behind another; step is called for each.
func listed(all func(yield func(key, value []byte) bool), step func(key string)) string {
	list := ""
	for k := range all {
		list += string(k)
		step(string(k))
	}
	return list
}

func nothing(string) {}

func TestP2_8AllIsAsAtItsBegin(t *testing.T) {
	m := plain{"a": "1", "c": "2", "e": "3"}.mapOf(t, 5)
	all := m.All()
	put(t, m, "b", "")
	if l := listed(all, nothing); l != "abce" {
		t.Errorf("the iteration that begins behind a Put yields %q", l)
	}
	drop(t, m, "c")
	if l := listed(all, nothing); l != "abe" {
		t.Errorf("the iteration that begins behind a Drop yields %q", l)
	}
	less, _ := m.Cut([]byte("b"))
	if l := listed(all, nothing) + "|" + listed(less.All(), nothing); l != "|a" {
		t.Errorf("the iterations that begin behind a Cut yield %q", l)
	}
}

func TestP2_8ChangesDuringAll(t *testing.T) {
	for name, change := range map[string]func(m *order.Map, key string){
		"Put":             func(m *order.Map, key string) { m.Put([]byte(key+"x"), nil) },
		"Drop":            func(m *order.Map, key string) { m.Drop([]byte(key)) },
		"Drop of another": func(m *order.Map, key string) { m.Drop([]byte("e")); m.Drop([]byte("c")); m.Drop([]byte("a")) },
		"Put of values":   func(m *order.Map, key string) { m.Put([]byte("c"), []byte("9")); m.Put([]byte("e"), []byte("9")) },
		"Cut":             func(m *order.Map, key string) { m.Cut([]byte("c")) },
		"Join":            func(m *order.Map, key string) { order.Join(m, order.New(5)) },
	} {
		m := plain{"a": "1", "c": "2", "e": "3"}.mapOf(t, 5)
		all, got := m.All(), ""
		for k, v := range all {
			got += string(k) + string(v)
			change(m, string(k))
		}
		if got != "a1c2e3" {
			t.Errorf("%s during an iteration: it yields %q", name, got)
		}
		want := ""
		for _, x := range m.Span(nil, nil, false) {
			want += string(x.Key)
		}
		if l := listed(all, nothing); l != want || l == "ace" && name != "Put of values" {
			t.Errorf("%s: the next iteration yields %q, expected %q", name, l, want)
		}
	}
}

func TestP2_8AllIsLeftEarly(t *testing.T) {
	content := plain{}
	for i := range 50 {
		content["k"+strconv.Itoa(100+i)] = strconv.Itoa(i)
	}
	m := content.mapOf(t, 5)
	all := m.All()
	keys := content.keys()
	for n := range 50 {
		var got []string
		all(func(key, value []byte) bool {
			got = append(got, string(key))
			return len(got) <= n
		})
		if !slices.Equal(got, keys[:n+1]) {
			t.Fatalf("an iteration that is left at its %d. pair yields %q", n+1, got)
		}
	}
	inner := 0
	for range all {
		for range all {
			inner++
		}
	}
	if inner != 50*50 {
		t.Errorf("an iteration within an iteration yields %d pairs in all", inner)
	}
	content.check(t, 5, m)
	m.All()(nil)
}

func TestP2_10Cut(t *testing.T) {
	content := plain{"a": "1", "c": "2", "e": "3", "g": "4", "i": ""}
	for seed := range uint64(8) {
		for _, at := range []string{"", "\x00", "a", "a\x00", "b", "c", "d", "e", "g", "h", "i", "j", strings.Repeat("z", 100)} {
			m := content.mapOf(t, seed)
			less, rest := m.Cut([]byte(at))
			content.span("", at, true).check(t, seed, less, "d")
			content.span(at, "", false).check(t, seed, rest, "d")
			plain{}.check(t, seed, m, "d")
			for _, x := range []*order.Map{m, less, rest} {
				if !order.Kin(x, content.mapOf(t, seed)) {
					t.Fatalf("a map that was cut has another seed")
				}
			}
			// Each of the three is a map of its own.
			put(t, m, "x", "1")
			put(t, less, "y", "2")
			put(t, rest, "z", "3")
			plain{"x": "1"}.check(t, seed, m)
			want := content.span("", at, true)
			want["y"] = "2"
			want.check(t, seed, less)
			want = content.span(at, "", false)
			want["z"] = "3"
			want.check(t, seed, rest)
		}
	}
}

func TestP2_10Join(t *testing.T) {
	content := plain{"a": "1", "c": "2", "e": "3", "g": "4", "i": ""}
	for seed := range uint64(8) {
		for _, at := range []string{"", "b", "c", "f", "z"} {
			a, b := content.span("", at, true).mapOf(t, seed), content.span(at, "", false).mapOf(t, seed)
			m, e := order.Join(a, b)
			if e != api.OK {
				t.Fatalf("Join: %d", e)
			}
			content.check(t, seed, m, "d")
			plain{}.check(t, seed, a)
			plain{}.check(t, seed, b)
			put(t, a, "x", "1")
			put(t, b, "y", "2")
			content.check(t, seed, m, "x", "y")
			plain{"x": "1"}.check(t, seed, a)
			plain{"y": "2"}.check(t, seed, b)
			drop(t, m, "c")
			content.of(func(k string) bool { return k != "c" }).check(t, seed, m)
		}
	}
	if m, e := order.Join(order.New(3), order.New(3)); e != api.OK || m.Len() != 0 {
		t.Errorf("Join of empty maps: %d", e)
	}
}

func TestP2_10JoinRefuses(t *testing.T) {
	low, high := plain{"a": "1", "c": "2"}, plain{"d": "3", "f": "4"}
	a, b, empty := low.mapOf(t, 5), high.mapOf(t, 5), order.New(5)
	other, last, within := high.mapOf(t, 6), plain{"c": "9"}.mapOf(t, 5), plain{"b": "9"}.mapOf(t, 5)
	for _, x := range []struct {
		what string
		a, b *order.Map
		want api.Errno
	}{
		{"nil and a map", nil, b, api.ErrArg},
		{"a map and nil", a, nil, api.ErrArg},
		{"nil and nil", nil, nil, api.ErrArg},
		{"a zero value and a map", &order.Map{}, b, api.ErrArg},
		{"a map and a zero value", a, &order.Map{}, api.ErrArg},
		{"two zero values", &order.Map{}, &order.Map{}, api.ErrArg},
		{"one map twice", a, a, api.ErrArg},
		{"one empty map twice", empty, empty, api.ErrArg},
		{"maps of two seeds", a, other, api.ErrArg},
		{"maps of two seeds the other way about", other, a, api.ErrArg},
		{"maps the other way about", b, a, api.ErrOrder},
		{"a key that both have", a, last, api.ErrOrder},
		{"a key between those of the first map", a, within, api.ErrOrder},
		{"a key between those of the second map", within, a, api.ErrOrder},
	} {
		if m, e := order.Join(x.a, x.b); m != nil || e != x.want {
			t.Errorf("Join of %s: %d, expected %d", x.what, e, x.want)
		}
	}
	low.check(t, 5, a)
	high.check(t, 5, b)
	high.check(t, 6, other)
	plain{"c": "9"}.check(t, 5, last)
}

func TestP2_10JoinOfFullMaps(t *testing.T) {
	all := full()
	all["one more"] = "v"
	at := "7"
	a, b := all.span("", at, true).mapOf(t, 9), all.span(at, "", false).mapOf(t, 9)
	before := [2]uint64{a.Digest(), b.Digest()}
	if m, e := order.Join(a, b); m != nil || e != api.ErrFull {
		t.Errorf("Join of MaxPairs + 1 pairs: %d, expected ErrFull", e)
	}
	if m, e := order.Join(b, a); m != nil || e != api.ErrOrder {
		t.Errorf("Join of MaxPairs + 1 pairs the other way about: %d, expected ErrOrder", e)
	}
	if before != [2]uint64{a.Digest(), b.Digest()} || a.Len()+b.Len() != api.MaxPairs+1 {
		t.Errorf("a Join that is refused changes the maps")
	}
	drop(t, b, "one more")
	delete(all, "one more")
	m, e := order.Join(a, b)
	if e != api.OK || m.Len() != api.MaxPairs || m.Digest() != all.digest(9) {
		t.Errorf("Join of MaxPairs pairs: %d", e)
	}
}

func TestP2_10Kin(t *testing.T) {
	a, b, other, zero := order.New(5), plain{"a": "1"}.mapOf(t, 5), order.New(6), &order.Map{}
	for _, x := range []struct {
		a, b *order.Map
		want bool
	}{{a, b, true}, {b, a, true}, {a, a, true}, {a, other, false}, {other, b, false}, {nil, a, false}, {a, nil, false}, {nil, nil, false}, {zero, a, false}, {a, zero, false}, {zero, zero, false}, {nil, zero, false}, {order.New(0), order.New(0), true}, {order.New(0), zero, false}} {
		if got := order.Kin(x.a, x.b); got != x.want {
			t.Errorf("Kin(%v, %v): %v", x.a, x.b, got)
		}
	}
	if loaded, _ := order.Load(5, a.Image()); !order.Kin(a, loaded) {
		t.Errorf("a map that was loaded has another seed")
	}
}

// TestP1NilAndZeroMaps: nil, and a Map that no function has returned.
func TestP1NilAndZeroMaps(t *testing.T) {
	for name, m := range map[string]*order.Map{"nil": nil, "zero": {}} {
		for _, key := range [][]byte{nil, []byte("a"), make([]byte, 100)} {
			if a, b := m.Put(key, nil), m.Drop(key); a != api.ErrArg || b != api.ErrArg {
				t.Errorf("%s: Put: %d, Drop: %d, expected ErrArg", name, a, b)
			}
			if v, e := m.Get(key); v != nil || e != api.ErrNone {
				t.Errorf("%s: Get: %v, %d, expected ErrNone", name, v, e)
			}
			if n, d := m.SpanDigest(key, nil, false); n != 0 || d != 0 || len(m.Span(key, nil, false)) != 0 {
				t.Errorf("%s: SpanDigest: %d, %d", name, n, d)
			}
			if n, d := m.SpanDigest(nil, key, true); n != 0 || d != 0 || len(m.Span(nil, key, true)) != 0 {
				t.Errorf("%s: SpanDigest, bounded: %d, %d", name, n, d)
			}
			if a, b := m.Cut(key); a != nil || b != nil {
				t.Errorf("%s: Cut: %v, %v", name, a, b)
			}
			if r, p := m.Rank(key), m.Prove(key); r != 0 || len(p) != 0 {
				t.Errorf("%s: Rank: %d, Prove: %v", name, r, p)
			}
		}
		if m.Len() != 0 || m.Digest() != 0 || len(m.Image()) != 0 || len(m.Nodes()) != 0 {
			t.Errorf("%s: %d pairs, the digest %d, the image %v", name, m.Len(), m.Digest(), m.Image())
		}
		if x, e := m.At(0); x.Key != nil || x.Value != nil || e != api.ErrNone {
			t.Errorf("%s: At: %v, %d", name, x, e)
		}
		if l := listed(m.All(), nothing); l != "" {
			t.Errorf("%s: All yields %q", name, l)
		}
		m.All()(nil)
	}
}

// TestP1CopiedMaps: a Map that a caller copied is none that a function of the package has returned, and yet nothing may hang or break.
func TestP1CopiedMaps(t *testing.T) {
	m := plain{"a": "1"}.mapOf(t, 1)
	copied := *m
	for i := range 6 {
		copied.Put([]byte{'c', byte(i)}, nil)
		m.Put([]byte{'t', byte(i)}, nil)
	}
	copied.Drop([]byte{'t', 1})
	m.Drop([]byte{'c', 1})
	order.Join(&copied, m)
	if loaded, e := order.Load(1, m.Image()); e != api.OK || loaded.Digest() != m.Digest() {
		t.Errorf("the image of a map whose copy was changed cannot be loaded: %d", e)
	}
}

// TestP3Memory: what is handed in or out may be written over afterwards.
func TestP3Memory(t *testing.T) {
	const seed = 3
	content := plain{"key": "value", "other": "words", "none": ""}
	m := content.mapOf(t, seed)
	key, value := []byte("key"), []byte("value")
	m.Put(key, value)
	spoil(key, value)
	key, value = []byte("new"), []byte("thing")
	m.Put(key, value)
	content["new"] = "thing"
	spoil(key, value)
	content.check(t, seed, m)

	v, _ := m.Get([]byte("key"))
	x, _ := m.At(1)
	spoil(v, x.Key, x.Value, m.Image())
	for k, v := range m.All() {
		spoil(k, v)
	}
	for _, x := range m.Span(nil, nil, false) {
		spoil(x.Key, x.Value)
	}
	for _, n := range m.Nodes() {
		spoil(n.Key, n.Value)
	}
	for _, s := range slices.Concat(m.Prove([]byte("key")), m.Prove([]byte("none")), m.Prove([]byte("zzz"))) {
		spoil(s.Key, s.Value)
	}
	content.check(t, seed, m)

	image := m.Image()
	loaded, _ := order.Load(seed, image)
	spoil(image)
	content.check(t, seed, loaded)
	at := []byte("n")
	a, b := loaded.Cut(at)
	spoil(at)
	content.span("", "n", true).check(t, seed, a)
	content.span("n", "", false).check(t, seed, b)
}

// TestP3Results: no two results share memory, nor do two slices of one result.
func TestP3Results(t *testing.T) {
	content := plain{"key": "value", "other": "words", "none": ""}
	m := content.mapOf(t, 3)
	one, other := m.Span(nil, nil, false), m.Span(nil, nil, false)
	for i, x := range one {
		_ = append(x.Key, "#############"...)
		spoil(x.Key)
		if content[string(other[i].Key)] != string(other[i].Value) || string(x.Value) != string(other[i].Value) {
			t.Errorf("a value changed with the key of pair %d", i)
		}
		spoil(x.Value)
	}
	for i, k := range content.keys() {
		if string(other[i].Key) != k || string(other[i].Value) != content[k] {
			t.Errorf("pair %d of one result changed with that of another one", i)
		}
	}
	a, b := m.Nodes(), m.Nodes()
	spoil(a[0].Key, a[0].Value, a[1].Key)
	if string(b[0].Value) != content[string(b[0].Key)] || string(a[1].Value) != string(b[1].Value) {
		t.Errorf("two results of Nodes share memory")
	}
	x, y := m.Image(), m.Image()
	spoil(x)
	if string(y) != string(content.image(3)) {
		t.Errorf("two results of Image share memory")
	}
}

// TestP3ArgumentsStay: arguments are not modified.
func TestP3ArgumentsStay(t *testing.T) {
	m := plain{"b": "1", "x": "2"}.mapOf(t, 1)
	key, value := []byte("key and more")[:3], []byte("value and more")[:5]
	m.Put(key, value)
	m.Get(key)
	m.Rank(key)
	m.Prove(key)
	m.Span(key, value, true)
	m.SpanDigest(key, value, true)
	image := m.Image()
	order.Load(1, image)
	m.Drop(key)
	m.Cut(key)
	if string(key[:12]) != "key and more" || string(value[:14]) != "value and more" || string(image) != string(plain{"b": "1", "key": "value", "x": "2"}.image(1)) {
		t.Errorf("an argument was modified")
	}
}

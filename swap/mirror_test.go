package swap_test

import (
	"bytes"
	"encoding/hex"
	"fmt"
	"maps"
	"math"
	"math/rand"
	"slices"
	"strings"
	"testing"

	"amnesty/api"
	"amnesty/order"
	"amnesty/swap"
)

// Keys of one height with the seed twinSeed: of two, the lesser one stands above. They were found apart from this program.
const (
	twinSeed          = 0x61C8864680B583EC
	twinLow, twinHigh = "A*Lf68*yl,Cy-NNA2a", "IpKZK.7v7a=f8CCE,Q"
)

// emptySeed is the seed with which the map of the pair of "b" and "1" has the digest 0, like a map of no pairs.
const emptySeed = 0x500A86E9EB1233EB

// equalSeed is a seed with which the maps of no more than one of these keys, without a value, have one digest. They were found apart from this program.
const (
	equalSeed             = 7
	equalLow, equalHigh   = "3825cf1d33000c18a7061a0b0932", "3e64487102040026a337050d1731"
	equalHere, equalThere = "137a2d051d0b240d7e101e587fac", "1d2970717a09e811781d19f05da9"
)

// bytesOf returns the text whose bytes are written in a text.
func bytesOf(t *testing.T, written string) string {
	t.Helper()
	b, err := hex.DecodeString(written)
	if err != nil {
		t.Fatal(err)
	}
	return string(b)
}

func TestP7_1Examples(t *testing.T) {
	for _, seed := range []uint64{0, 5, math.MaxUint64} {
		empty, one := plain{}, plain{"b": "1"}
		digest := one.mapOf(t, seed).Digest()
		for _, x := range []struct {
			from, to plain
			want     []api.Message
		}{
			{empty, empty, []api.Message{{Same: true}}},
			{one, one, []api.Message{{Size: 1, Digest: digest, Same: true}}},
			{empty, one, []api.Message{{}}},
			{empty, plain{"x": "y", "z": ""}, []api.Message{{}}},
			{one, empty, []api.Message{
				{Size: 1, Digest: digest, Pairs: []api.Pair{{Key: []byte("b"), Value: []byte("1")}}},
				{High: []byte("b"), Bounded: true, Same: true},
				{Low: []byte("b\x00"), Same: true},
			}},
			{one, plain{"a": "", "b": "2", "c": ""}, []api.Message{
				{Size: 1, Digest: digest, Pairs: []api.Pair{{Key: []byte("b"), Value: []byte("1")}}},
				{High: []byte("b"), Bounded: true},
				{Low: []byte("b\x00")},
			}},
		} {
			if got := x.from.mirror(t, seed, x.to); !slices.Equal(lines(got), lines(x.want)) {
				t.Errorf("from %q to %q: %q, expected %q", x.from, x.to, lines(got), lines(x.want))
			}
		}
	}
}

// without returns the content without a key.
func (p plain) without(key string) plain {
	q := maps.Clone(p)
	delete(q, key)
	return q
}

// with returns the content with another pair.
func (p plain) with(key, value string) plain {
	q := maps.Clone(p)
	q[key] = value
	return q
}

// someKeys are keys close to each other: beginnings of one another, with zero bytes behind them, and the shortest, longest, least and greatest ones.
func someKeys() []string {
	keys := []string{"\x00", "\x00\x00", "\x00\x01", "\x01", "\xFF", "\xFF\x00", strings.Repeat("\xFF", 64), strings.Repeat("\x00", 64)}
	for _, k := range []string{"a", "b", "ba", "key"} {
		keys = append(keys, k, k+"\x00", k+"\x00\x00", k+"\x00\x01", k+"\x01", k+"a", k+"\xFF")
	}
	long := strings.Repeat("k", 63)
	return append(keys, long, long+"\x00", long+"k", long+"\xFF", long[:62]+"\x00")
}

// anyPlain returns a content of up to so many pairs.
func anyPlain(r *rand.Rand, most int) plain {
	p, keys := plain{}, someKeys()
	for range r.Intn(most + 1) {
		key := keys[r.Intn(len(keys))]
		if r.Intn(2) == 0 {
			key = fmt.Sprint(r.Intn(2 * most))
		}
		p[key] = anyValue(r)
	}
	return p
}

func anyValue(r *rand.Rand) string {
	return strings.Repeat("v", []int{0, 1, 2, 3, 999, 1000}[r.Intn(6)])
}

// changed returns a content with so many changes: pairs that go, that come, and that get another value.
func changed(r *rand.Rand, p plain, changes int) plain {
	p = maps.Clone(p)
	for range changes {
		keys := p.keys()
		switch {
		case r.Intn(3) == 0:
			p[fmt.Sprint(r.Intn(200))] = anyValue(r)
		case len(keys) == 0:
		case r.Intn(2) == 0:
			delete(p, keys[r.Intn(len(keys))])
		default:
			p[keys[r.Intn(len(keys))]] = anyValue(r)
		}
	}
	return p
}

// TestP7_1Mirror: maps that differ in nothing, in a few pairs, in many, and in all.
func TestP7_1Mirror(t *testing.T) {
	for seed := range uint64(150) {
		r := rand.New(rand.NewSource(int64(seed)))
		from := anyPlain(r, []int{0, 3, 12, 60}[seed%4])
		for _, to := range []plain{{}, from, changed(r, from, 1), changed(r, from, 3), changed(r, from, 30), anyPlain(r, 20)} {
			from.mirror(t, seed, to)
			to.mirror(t, seed, from)
		}
	}
}

// TestP7_1FewPairs: all contents of up to four keys that stand close together, each with no value or with one, mirrored to all.
func TestP7_1FewPairs(t *testing.T) {
	keys := []string{"a", "a\x00", "a\x00\x00", "b"}
	var all []plain
	for n := range 81 {
		p := plain{}
		for _, k := range keys {
			if n%3 > 0 {
				p[k] = strings.Repeat("1", n%3-1)
			}
			n /= 3
		}
		all = append(all, p)
	}
	for i, from := range all {
		for j, to := range all {
			from.mirror(t, uint64(i+j)%5, to)
		}
	}
}

// TestP7_1OnePair: maps of many pairs that differ in one: that the receiver lacks, that it has beyond the others, or of which it has another value. All else is told to be the same.
func TestP7_1OnePair(t *testing.T) {
	const seed = 9
	p := plain{}
	for i := range 100 {
		p[fmt.Sprintf("%03d", i)] = fmt.Sprint(i)
	}
	h := height(seed, p.keys())
	for _, key := range p.keys() {
		for _, to := range []plain{p.without(key), p.with(key, "other"), p.with(key+"x", ""), p.with("x"+key, "")} {
			got := p.mirror(t, seed, to)
			handed := 0
			for _, m := range got {
				handed += len(m.Pairs)
			}
			if len(got) > 1+2*(h+1) || handed > h {
				t.Errorf("%d messages with %d pairs for one pair of 100, in a map of the height %d", len(got), handed, h)
			}
		}
	}
}

// TestP7_1AllPairs: maps without a pair in common, or with the same keys and other values: each pair of the sender is handed over once.
func TestP7_1AllPairs(t *testing.T) {
	for seed := range uint64(20) {
		from, to, others := plain{}, plain{}, plain{}
		for i := range 40 {
			from[fmt.Sprint(2*i)], to[fmt.Sprint(2*i+1)], others[fmt.Sprint(2*i)] = "v", "v", "w"
		}
		for _, q := range []plain{{}, to, others} {
			handed := plain{}
			messages := from.mirror(t, seed, q)
			for _, m := range messages {
				for _, p := range m.Pairs {
					handed[string(p.Key)] = string(p.Value)
				}
			}
			if len(messages) != 81 || !maps.Equal(handed, from) {
				t.Errorf("%d messages with %d of 40 pairs, expected 81 with each of them", len(messages), len(handed))
			}
		}
	}
}

// TestP7_1FurtherPairs: a receiver that has all pairs of the sender, and further ones ahead of, between and behind them.
func TestP7_1FurtherPairs(t *testing.T) {
	for seed := range uint64(40) {
		r := rand.New(rand.NewSource(int64(seed)))
		from := anyPlain(r, 20)
		to := maps.Clone(from)
		for range 1 + r.Intn(40) {
			to[someKeys()[r.Intn(len(someKeys()))]+fmt.Sprint(r.Intn(9))[:r.Intn(2)]] = ""
		}
		for k := range to {
			if len(k) > api.MaxKey {
				delete(to, k)
			}
		}
		maps.Copy(to, from)
		from.mirror(t, seed, to)
	}
}

func TestP7_1Bounds(t *testing.T) {
	long, value := strings.Repeat("k", 64), strings.Repeat("v", 1000)
	p := plain{long: value, long[:63]: "", "k": value, "z": value}
	for seed := range uint64(10) {
		got := p.mirror(t, seed, plain{long: value[:999], "kk": ""})
		if !slices.ContainsFunc(got, func(m api.Message) bool { return string(m.Low) == long+"\x00" }) {
			t.Errorf("no span from the greatest key on: %q", lines(got))
		}
		plain{}.mirror(t, seed, p)
		p.mirror(t, seed, plain{})
	}
}

// TestP7_1EqualHeights: of two keys of one height the lesser one is at the top.
func TestP7_1EqualHeights(t *testing.T) {
	p := plain{twinLow: "1", twinHigh: "2"}
	for _, to := range []plain{{}, {twinLow: "1"}, {twinHigh: "2"}, {"B": ""}} {
		got := p.mirror(t, twinSeed, to)
		if string(got[0].Pairs[0].Key) != twinLow {
			t.Errorf("at the top: %q, expected %q", got[0].Pairs[0].Key, twinLow)
		}
		p.with("B", "x").mirror(t, twinSeed, to)
		to.mirror(t, twinSeed, p)
	}
}

// TestP7_1NumbersAndDigests: a span of one pair whose digest is 0 is not the same as one of none.
func TestP7_1NumbersAndDigests(t *testing.T) {
	one := plain{"b": "1"}
	if d := one.mapOf(t, emptySeed).Digest(); d != 0 {
		t.Fatalf("the digest is %#x, expected 0", d)
	}
	got := one.mirror(t, emptySeed, plain{})
	if len(got) != 3 || got[0].Same || got[0].Size != 1 || got[0].Digest != 0 {
		t.Errorf("from a pair with the digest 0: %q", lines(got))
	}
	if got = (plain{}).mirror(t, emptySeed, one); len(got) != 1 || got[0].Same {
		t.Errorf("to a pair with the digest 0: %q", lines(got))
	}
}

// TestT5EqualDigests: of spans that differ, but have the same number and digest, nothing more is told, and the receiver's pairs stay.
func TestT5EqualDigests(t *testing.T) {
	low, high, here, there := bytesOf(t, equalLow), bytesOf(t, equalHigh), bytesOf(t, equalHere), bytesOf(t, equalThere)
	if (plain{low: ""}).digest(equalSeed, []string{low}) != (plain{high: ""}).digest(equalSeed, []string{high}) {
		t.Fatal("the digests are not equal")
	}
	for _, x := range []struct{ from, to, after plain }{
		{plain{low: ""}, plain{high: ""}, plain{high: ""}},
		{plain{there: ""}, plain{here: ""}, plain{here: ""}},
		{plain{low: ""}, plain{high: "1"}, plain{low: ""}},
		{plain{low: ""}, plain{here: ""}, plain{low: ""}},
		{plain{low: "", high: ""}, plain{low: ""}, plain{low: "", high: ""}},
		{plain{low: "", here: ""}, plain{high: "", there: ""}, nil},
	} {
		a, b := x.from.mapOf(t, equalSeed), x.to.mapOf(t, equalSeed)
		messages, e := swap.Mirror(a, b)
		if e != api.OK {
			t.Fatalf("Mirror: %d", e)
		}
		after := x.from.checkMessages(t, equalSeed, x.to, messages)
		if x.after != nil && !maps.Equal(after, x.after) {
			t.Errorf("from %q to %q: %q", x.from, x.to, after)
		}
		after.check(t, equalSeed, b)
		x.from.check(t, equalSeed, a)
	}
}

// TestT5EqualDigestsAmongOthers: such spans within maps that differ elsewhere stay apart, too.
func TestT5EqualDigestsAmongOthers(t *testing.T) {
	low, high := bytesOf(t, equalLow), bytesOf(t, equalHigh)
	stayed := 0
	for i := range 200 {
		from, to := plain{low: "", "Z": fmt.Sprint(i)}, plain{high: ""}
		for j := range i % 5 {
			from[fmt.Sprint(i*j)], to[fmt.Sprint(i*j)] = "", ""
		}
		a, b := from.mapOf(t, equalSeed), to.mapOf(t, equalSeed)
		messages, e := swap.Mirror(a, b)
		if e != api.OK {
			t.Fatalf("Mirror: %d", e)
		}
		after := from.checkMessages(t, equalSeed, to, messages)
		after.check(t, equalSeed, b)
		if _, there := after[high]; there {
			stayed++
		}
	}
	if stayed == 0 {
		t.Errorf("no span stayed apart")
	}
}

// deepPlain returns a content whose map is as deep as it is long, and leans to one side.
func deepPlain(seed uint64, n int, rising bool) plain {
	p := plain{}
	for i := range uint64(n) {
		wanted := i
		if !rising {
			wanted = uint64(n) - 1 - i
		}
		for attempt := 0; ; attempt++ {
			key := string([]byte{byte(i >> 8), byte(i)}) + fmt.Sprint(attempt)
			if heightOf(seed, key)/(math.MaxUint64/uint64(n)) == wanted {
				p[key] = "v"
				break
			}
		}
	}
	return p
}

func TestP7_2DeepMaps(t *testing.T) {
	const n, seed = 100, 11
	for _, rising := range []bool{true, false} {
		p := deepPlain(seed, n, rising)
		if h := height(seed, p.keys()); h != n {
			t.Fatalf("the height is %d, expected %d", h, n)
		}
		keys := p.keys()
		for _, to := range []plain{{}, p.without(keys[0]), p.without(keys[n-1]), p.with(keys[n/2], ""), p.with("x", "").without(keys[7])} {
			p.mirror(t, seed, to)
			to.mirror(t, seed, p)
		}
	}
}

// fill puts so many pairs into a map, with the keys first, first + step, and so on.
func fill(t *testing.T, m *order.Map, count, first, step int) {
	t.Helper()
	for i := range count {
		if e := m.Put(fmt.Appendf(nil, "%06d", first+i*step), nil); e != api.OK {
			t.Fatalf("Put: %d", e)
		}
	}
}

// TestP7_1FullMaps: a receiver that is full takes pairs in ahead of those that it is to lose.
func TestP7_1FullMaps(t *testing.T) {
	from, to := order.New(1), order.New(1)
	fill(t, from, api.MaxPairs, 0, 2)
	fill(t, to, api.MaxPairs/2, 0, 2)
	fill(t, to, api.MaxPairs/2-2000, api.MaxPairs, 2)
	fill(t, to, 2000, 3*api.MaxPairs, 1)
	image := from.Image()
	messages, e := swap.Mirror(from, to)
	if e != api.OK || to.Len() != api.MaxPairs || !bytes.Equal(to.Image(), image) || !bytes.Equal(from.Image(), image) {
		t.Errorf("Mirror: %d, %d pairs", e, to.Len())
	}
	if n := len(messages); n < 2*2000 || n > 4*2000+100 {
		t.Errorf("%d messages for 2000 pairs that are missing in a row", n)
	}
	if last := messages[len(messages)-1]; last.Same || last.Size != 0 {
		t.Errorf("what goes does not go last: %q", lines(messages[len(messages)-1:]))
	}
	if messages, e = swap.Mirror(from, to); e != api.OK || len(messages) != 1 || !messages[0].Same || messages[0].Size != api.MaxPairs {
		t.Errorf("Mirror of equal maps: %d, %q", e, lines(messages))
	}
	if messages, e = swap.Mirror(order.New(1), to); e != api.OK || len(messages) != 1 || to.Len() != 0 {
		t.Errorf("Mirror of an empty map: %d, %q, %d pairs", e, lines(messages), to.Len())
	}
}

func TestP7_1Refuses(t *testing.T) {
	content := plain{"a": "1", "b": ""}
	m, other, empty := content.mapOf(t, 1), plain{"c": ""}.mapOf(t, 2), order.New(1)
	for what, x := range map[string][2]*order.Map{
		"a nil map":                        {nil, m},
		"to a nil map":                     {m, nil},
		"nil maps":                         {nil, nil},
		"the zero value":                   {{}, m},
		"to the zero value":                {m, {}},
		"zero values":                      {{}, {}},
		"a nil map to the zero value":      {nil, {}},
		"a map to itself":                  {m, m},
		"an empty map to itself":           {empty, empty},
		"a map of another seed":            {other, m},
		"to a map of another seed":         {m, other},
		"an empty map to one of its likes": {order.New(3), order.New(4)},
	} {
		messages, e := swap.Mirror(x[0], x[1])
		if e != api.ErrArg || len(messages) != 0 {
			t.Errorf("Mirror of %s: %d, %q, expected ErrArg", what, e, lines(messages))
		}
	}
	zero := new(order.Map)
	if _, e := swap.Mirror(zero, zero); e != api.ErrArg {
		t.Errorf("Mirror of one zero value to itself: %d", e)
	}
	content.check(t, 1, m)
	plain{"c": ""}.check(t, 2, other)
	plain{}.check(t, 1, empty)
}

// TestP1CopiedMaps: a value that a caller copies is the map still, so there is nothing to change.
func TestP1CopiedMaps(t *testing.T) {
	content := plain{"a": "1", "b": ""}
	m := content.mapOf(t, 1)
	copied := *m
	swap.Mirror(m, &copied)
	swap.Mirror(&copied, m)
	content.check(t, 1, m)
	content.check(t, 1, &copied)
	from := plain{"a": "2", "x": "y"}
	if _, e := swap.Mirror(from.mapOf(t, 1), &copied); e != api.OK {
		t.Errorf("Mirror: %d", e)
	}
	from.check(t, 1, m)
}

// wander returns a map of a content into which much else was put before.
func wander(t *testing.T, r *rand.Rand, seed uint64, p plain) *order.Map {
	t.Helper()
	m := changed(r, anyPlain(r, 30), 5).mapOf(t, seed)
	for _, k := range m.Span(nil, nil, false) {
		if _, there := p[string(k.Key)]; !there || r.Intn(2) == 0 {
			m.Drop(k.Key)
		}
	}
	keys := p.keys()
	for _, i := range r.Perm(len(keys)) {
		m.Put([]byte(keys[i]), []byte(p[keys[i]]))
	}
	return m
}

// TestT1OneShape: whatever led to two maps, the messages depend on their contents alone.
func TestT1OneShape(t *testing.T) {
	for seed := range uint64(40) {
		r := rand.New(rand.NewSource(int64(seed)))
		p := anyPlain(r, 30)
		q := changed(r, p, r.Intn(10))
		for range 3 {
			from, to := wander(t, r, seed, p), wander(t, r, seed, q)
			messages, e := swap.Mirror(from, to)
			if e != api.OK {
				t.Fatalf("Mirror: %d", e)
			}
			p.check(t, seed, from)
			p.checkMessages(t, seed, q, messages).check(t, seed, to)
			if !bytes.Equal(from.Image(), to.Image()) {
				t.Fatalf("the images differ")
			}
		}
	}
}

// TestT5Replicas: replicas that change, and are mirrored from one another in any order, have the image of their source each time.
func TestT5Replicas(t *testing.T) {
	for seed := range uint64(20) {
		r := rand.New(rand.NewSource(int64(seed)))
		replicas := make([]*order.Map, 4)
		contents := make([]plain, len(replicas))
		for i := range replicas {
			replicas[i], contents[i] = order.New(seed), plain{}
		}
		for range 40 {
			i, j := r.Intn(len(replicas)), r.Intn(len(replicas))
			for range r.Intn(6) {
				key, value := fmt.Sprint(r.Intn(60)), anyValue(r)
				replicas[i].Put([]byte(key), []byte(value))
				contents[i][key] = value
			}
			for range r.Intn(4) {
				key := fmt.Sprint(r.Intn(60))
				replicas[i].Drop([]byte(key))
				delete(contents[i], key)
			}
			if i == j {
				continue
			}
			messages, e := swap.Mirror(replicas[i], replicas[j])
			if e != api.OK {
				t.Fatalf("Mirror: %d", e)
			}
			contents[j] = contents[i].checkMessages(t, seed, contents[j], messages)
			contents[i].check(t, seed, replicas[i])
			contents[j].check(t, seed, replicas[j])
			if !bytes.Equal(replicas[i].Image(), replicas[j].Image()) {
				t.Fatalf("the images differ")
			}
		}
	}
}

// spoil changes some bytes, and those behind them that belong to the same memory.
func spoil(all ...[]byte) {
	for _, b := range all {
		b = b[:cap(b)]
		for i := range b {
			b[i] ^= 0xFF
		}
	}
}

// TestP3Memory: messages share no memory with the maps, nor with each other.
func TestP3Memory(t *testing.T) {
	p, q := plain{}, plain{"x": "y", "0": ""}
	for i := range 20 {
		p[fmt.Sprint(i)] = "value"
	}
	from, to := p.mapOf(t, 3), q.mapOf(t, 3)
	messages, e := swap.Mirror(from, to)
	if e != api.OK {
		t.Fatalf("Mirror: %d", e)
	}
	want := p.send(3, maps.Clone(q), "", "", false)
	for i, m := range messages {
		if got := lines(messages[i:]); !slices.Equal(got, lines(want[i:])) {
			t.Fatalf("messages changed with those ahead of them: %q", got)
		}
		spoil(m.Low)
		if string(m.High) != string(want[i].High) {
			t.Fatalf("High changed with Low")
		}
		spoil(m.High)
		for j, pair := range m.Pairs {
			if string(pair.Key) != string(want[i].Pairs[j].Key) {
				t.Fatalf("a key changed with its span")
			}
			spoil(pair.Key)
			if string(pair.Value) != string(want[i].Pairs[j].Value) {
				t.Fatalf("a value changed with its key")
			}
			spoil(pair.Value)
		}
	}
	p.check(t, 3, from)
	p.check(t, 3, to)
}

// TestP3MapsApart: maps that were mirrored go on apart.
func TestP3MapsApart(t *testing.T) {
	p := plain{"a": "1", "b": "2", "c": "3"}
	from, to := p.mapOf(t, 3), order.New(3)
	swap.Mirror(from, to)
	to.Drop([]byte("b"))
	from.Put([]byte("c"), []byte("4"))
	p.without("b").check(t, 3, to)
	p.with("c", "4").check(t, 3, from)
}

// TestP4Apart: other maps that are mirrored in between change nothing.
func TestP4Apart(t *testing.T) {
	p, q := plain{"a": "1", "c": "2"}, plain{"b": "", "c": "3"}
	want := lines(p.mirror(t, 4, q))
	for seed := range uint64(5) {
		q.mirror(t, seed, p)
		if got := lines(p.mirror(t, 4, q)); !slices.Equal(got, want) {
			t.Errorf("%q, expected %q", got, want)
		}
	}
}

package order_test

import (
	"bytes"
	"math/rand"
	"slices"
	"strconv"
	"strings"
	"testing"

	"amnesty/api"
	"amnesty/order"
)

// letters returns a content with some letters as keys.
func letters(keys string) plain {
	content := plain{}
	for _, k := range keys {
		content[string(k)] = "of " + string(k)
	}
	return content
}

// unfit checks that a proof does not fit.
func unfit(t *testing.T, what string, seed, digest uint64, key string, proof []api.Side) {
	t.Helper()
	if v, there, e := order.Check(seed, digest, []byte(key), proof); v != nil || there || e != api.ErrForm {
		t.Errorf("Check of %s: %q, %v, %d, expected ErrForm", what, v, there, e)
	}
}

// fit checks that a proof fits, and what it shows.
func fit(t *testing.T, what string, seed, digest uint64, key string, proof []api.Side, value string, there bool) {
	t.Helper()
	if v, is, e := order.Check(seed, digest, []byte(key), proof); string(v) != value || is != there || e != api.OK {
		t.Errorf("Check of %s: %q, %v, %d, expected %q, %v", what, v, is, e, value, there)
	}
}

// TestP2_11Proofs: the example of the document. Other proofs are held against the way to the key by check.
func TestP2_11Proofs(t *testing.T) {
	m := letters("ace").mapOf(t, 3)
	steps := func(key string) string {
		list := ""
		for _, s := range m.Prove([]byte(key)) {
			list += string(s.Key)
		}
		return list
	}
	for key, want := range map[string]string{"": "ca", "a": "ca", "b": "ca", "c": "c", "d": "ce", "e": "ce", "f": "ce", strings.Repeat("c", 200): "ce"} {
		if got := steps(key); got != want {
			t.Errorf("Prove(%q) has the steps of %q, expected %q", key, got, want)
		}
	}
	proof := m.Prove([]byte("d"))
	if proof[1].Left != 0 || proof[1].Right != 0 || string(proof[1].Value) != "of e" || proof[0].Right != digestOf(3, 0, "e", "of e", 0) {
		t.Errorf("Prove(d): %v", proof)
	}
	fit(t, "d", 3, m.Digest(), "d", proof, "", false)
}

// TestP2_12NoSteps: no steps show that a key is missing from the map with the digest 0.
func TestP2_12NoSteps(t *testing.T) {
	for _, key := range []string{"", "a", strings.Repeat("k", 500)} {
		fit(t, "no steps", 5, 0, key, nil, "", false)
		fit(t, "no steps", 5, 0, key, []api.Side{}, "", false)
		for _, digest := range []uint64{1, 5, 1<<64 - 1} {
			unfit(t, "no steps and another digest than 0", 5, digest, key, nil)
		}
	}
	m := letters("ace").mapOf(t, 5)
	unfit(t, "no steps for a map with pairs", 5, m.Digest(), "b", nil)
}

// TestT6Tampered changes one thing in each proof of a map.
func TestT6Tampered(t *testing.T) {
	const seed = 12
	m := letters("bdfhjlnp").mapOf(t, seed)
	digest := m.Digest()
	for _, k := range "abcdefghijklmnopq" {
		key := string(k)
		for name, change := range changes() {
			for i := range m.Prove([]byte(key)) {
				proof := m.Prove([]byte(key))
				unfit(t, key+" with "+name+" at step "+strconv.Itoa(i), seed, digest, key, change(proof, i))
			}
		}
		proof := m.Prove([]byte(key))
		unfit(t, key+" with another seed", seed+1, digest, key, proof)
		unfit(t, key+" with another digest", seed, digest^1, key, proof)
		unfit(t, key+" with the digest 0", seed, 0, key, proof)
		for n := range proof {
			unfit(t, key+" without its last steps", seed, digest, key, proof[:n])
			unfit(t, key+" without its first steps", seed, digest, key, proof[n+1:])
		}
	}
}

// changes are ways to spoil a proof at a step.
func changes() map[string]func(proof []api.Side, i int) []api.Side {
	step := func(change func(s *api.Side)) func([]api.Side, int) []api.Side {
		return func(proof []api.Side, i int) []api.Side {
			change(&proof[i])
			return proof
		}
	}
	return map[string]func(proof []api.Side, i int) []api.Side{
		"another value":     step(func(s *api.Side) { s.Value[0] ^= 1 }),
		"a longer value":    step(func(s *api.Side) { s.Value = append(s.Value, 0) }),
		"no value":          step(func(s *api.Side) { s.Value = nil }),
		"another key":       step(func(s *api.Side) { s.Key[0] ^= 0x80 }),
		"a longer key":      step(func(s *api.Side) { s.Key = append(s.Key, 0) }),
		"no key":            step(func(s *api.Side) { s.Key = nil }),
		"a byte moved":      step(func(s *api.Side) { s.Key, s.Value = append(s.Key, s.Value[0]), s.Value[1:] }),
		"another left one":  step(func(s *api.Side) { s.Left++ }),
		"another right one": step(func(s *api.Side) { s.Right++ }),
		"both sides":        step(func(s *api.Side) { s.Left, s.Right = s.Right+1, s.Left+1 }),
		"a step twice":      func(proof []api.Side, i int) []api.Side { return slices.Insert(proof, i, proof[i]) },
		"a step missing":    func(proof []api.Side, i int) []api.Side { return slices.Delete(proof, i, i+1) },
		"a step of nothing": func(proof []api.Side, i int) []api.Side { return slices.Insert(proof, i+1, api.Side{}) },
		"the first step once more": func(proof []api.Side, i int) []api.Side {
			return append(proof, proof[0])
		},
	}
}

// TestT6ProofsOfOtherKeys: a proof of one key shows of another one what is there, or does not fit.
func TestT6ProofsOfOtherKeys(t *testing.T) {
	for seed := range uint64(10) {
		content := letters("bdfhjlnprtvx")
		m := content.mapOf(t, seed)
		other := letters("bdfhjl").mapOf(t, seed)
		fits := 0
		for _, k := range "abcdefghijklmnopqrstuvwxyz" {
			want, is := content[string(k)]
			for _, x := range "abcdefghijklmnopqrstuvwxyz" {
				proof := m.Prove([]byte(string(x)))
				v, there, e := order.Check(seed, m.Digest(), []byte(string(k)), proof)
				if e == api.OK && (there != is || string(v) != want) {
					t.Fatalf("the proof of %c shows of %c: %q, %v, expected %q, %v", x, k, v, there, want, is)
				}
				if e != api.OK && (e != api.ErrForm || v != nil || there) {
					t.Fatalf("the proof of %c for %c: %q, %v, %d", x, k, v, there, e)
				}
				if e == api.OK {
					fits++
				}
				unfit(t, "a proof of another map", seed, m.Digest(), string(k), other.Prove([]byte(string(x))))
			}
		}
		if fits < 26 || fits > 26*13 {
			t.Errorf("%d proofs fit", fits)
		}
	}
}

// chained returns the steps of some keys, each below the one ahead of it on the side to which a key leads, and the digest of the first one. The last step has what it is given on both sides.
func chained(seed uint64, key string, keys []string, last uint64) ([]api.Side, uint64) {
	steps := make([]api.Side, len(keys))
	below := last
	for i := len(keys) - 1; i >= 0; i-- {
		s := api.Side{Key: []byte(keys[i]), Value: []byte("v"), Left: last, Right: last}
		if key < keys[i] {
			s.Left = below
		} else {
			s.Right = below
		}
		steps[i] = s
		below = digestOf(seed, s.Left, keys[i], "v", s.Right)
	}
	return steps, below
}

// TestP2_12KeyAheadOfTheLastStep: no step but the last one has the key, even if all digests fit.
func TestP2_12KeyAheadOfTheLastStep(t *testing.T) {
	for _, x := range []struct {
		keys string
		want bool
	}{{"k", true}, {"ak", true}, {"zak", true}, {"kk", false}, {"kz", false}, {"kaz", false}, {"akb", false}, {"akk", false}} {
		steps, digest := chained(7, "k", strings.Split(x.keys, ""), 0)
		if x.want {
			fit(t, "the steps of "+x.keys, 7, digest, "k", steps, "v", true)
		} else {
			unfit(t, "the steps of "+x.keys, 7, digest, "k", steps)
		}
	}
}

// TestP2_12LastStep: if the last step has not the key, it has the digest 0 on its side; if it has the key, what its sides have does not matter.
func TestP2_12LastStep(t *testing.T) {
	for _, keys := range [][]string{{"a"}, {"z"}, {"a", "z"}, {"z", "y", "b"}} {
		steps, digest := chained(7, "k", keys, 0)
		fit(t, "a missing key", 7, digest, "k", steps, "", false)
		steps, digest = chained(7, "k", keys, 99)
		unfit(t, "a key below which more nodes stand", 7, digest, "k", steps)
		steps, digest = chained(7, "k", append(slices.Clone(keys), "k"), 99)
		fit(t, "a key over more nodes", 7, digest, "k", steps, "v", true)
	}
	for _, s := range []api.Side{{Key: []byte("a"), Left: 5}, {Key: []byte("z"), Right: 5}} {
		fit(t, "a missing key beside another node", 7, digestOf(7, s.Left, string(s.Key), "", s.Right), "k", []api.Side{s}, "", false)
	}
}

// TestP2_12Lengths: steps whose digests fit, with keys and values of all lengths around the limits.
func TestP2_12Lengths(t *testing.T) {
	one := func(key, value string) ([]api.Side, uint64) {
		return []api.Side{{Key: []byte(key), Value: []byte(value)}}, digestOf(7, 0, key, value, 0)
	}
	for _, n := range []int{1, 2, 63, 64} {
		key := strings.Repeat("k", n)
		steps, digest := one(key, "v")
		fit(t, "an allowed key", 7, digest, key, steps, "v", true)
		fit(t, "an allowed key", 7, digest, key+"k", steps, "", false)
	}
	for _, n := range []int{0, 65, 255, 256, 257, 1000} {
		key := strings.Repeat("k", n)
		steps, digest := one(key, "v")
		unfit(t, "a key of "+strconv.Itoa(n)+" bytes", 7, digest, key, steps)
		unfit(t, "another key of "+strconv.Itoa(n)+" bytes", 7, digest, "x", steps)
	}
	for _, n := range []int{0, 1, 255, 256, 999, 1000, 1001, 65535, 65536, 65537} {
		value := strings.Repeat("v", n)
		steps, digest := one("k", value)
		if n <= api.MaxValue {
			fit(t, "an allowed value", 7, digest, "k", steps, value, true)
			fit(t, "an allowed value", 7, digest, "x", steps, "", false)
		} else {
			unfit(t, "a value of "+strconv.Itoa(n)+" bytes", 7, digest, "k", steps)
			unfit(t, "a value of "+strconv.Itoa(n)+" bytes", 7, digest, "x", steps)
		}
	}
	steps, digest := chained(7, "k", []string{"a", strings.Repeat("b", 65), "c"}, 0)
	unfit(t, "a key of 65 bytes within a proof", 7, digest, "k", steps)
}

// TestP2_12MaxSteps: the greatest number of steps.
func TestP2_12MaxSteps(t *testing.T) {
	keys := slices.Repeat([]string{"a"}, api.MaxPairs)
	steps, digest := chained(7, "k", keys, 0)
	fit(t, "MaxPairs steps", 7, digest, "k", steps, "", false)
	steps, digest = chained(7, "k", append(keys, "a"), 0)
	unfit(t, "MaxPairs + 1 steps", 7, digest, "k", steps)
}

// TestP2_12DigestZero: a node with the digest 0 is shown; but the step above it shows that it is missing, because then two nodes, of which one is none, have one digest.
func TestP2_12DigestZero(t *testing.T) {
	m := letters("ac").mapOf(t, emptySeed)
	put(t, m, "b", "1")
	proof := m.Prove([]byte("b"))
	n := len(proof)
	if n < 2 || digestOf(emptySeed, proof[n-1].Left, "b", "1", proof[n-1].Right) != 0 {
		t.Fatalf("the node of b has not the digest 0: the test shows nothing")
	}
	fit(t, "a node with the digest 0", emptySeed, m.Digest(), "b", proof, "1", true)
	fit(t, "the steps above a node with the digest 0", emptySeed, m.Digest(), "b", proof[:n-1], "", false)
	fit(t, "a root with the digest 0", emptySeed, 0, "b", proof[n-1:], "1", true)
	fit(t, "no steps above a root with the digest 0", emptySeed, 0, "b", nil, "", false)
	proof[n-1].Value = []byte("2")
	unfit(t, "another node than that with the digest 0", emptySeed, m.Digest(), "b", proof)
}

// TestP2_12Arguments: Check leaves its arguments alone, and what it returns is new memory.
func TestP2_12Arguments(t *testing.T) {
	m := letters("bdfhjlnp").mapOf(t, 12)
	key, proof := []byte("f"), m.Prove([]byte("f"))
	given := m.Prove([]byte("f"))
	v, there, e := order.Check(12, m.Digest(), key, proof)
	if !sameProof(proof, given) || string(key) != "f" {
		t.Errorf("Check changed its arguments")
	}
	for _, s := range proof {
		spoil(s.Key, s.Value)
	}
	if string(v) != "of f" || !there || e != api.OK {
		t.Errorf("what Check returned changed with the proof: %q, %v, %d", v, there, e)
	}
	spoil(v)
	fit(t, "the proof once more", 12, m.Digest(), "f", m.Prove([]byte("f")), "of f", true)
}

// TestT6RandomBytes: steps that were made of anything fit no digest of a map.
func TestT6RandomBytes(t *testing.T) {
	m := letters("bdfhjlnp").mapOf(t, 12)
	r := rand.New(rand.NewSource(6))
	for range 2000 {
		var proof []api.Side
		for range 1 + r.Intn(4) {
			proof = append(proof, api.Side{Key: bytes.Repeat([]byte{byte(r.Intn(256))}, r.Intn(70)), Value: make([]byte, r.Intn(1100)), Left: r.Uint64(), Right: uint64(r.Intn(2))})
		}
		unfit(t, "steps made of anything", 12, m.Digest(), "f", proof)
	}
}

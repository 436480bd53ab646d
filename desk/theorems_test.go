package desk_test

import (
	"fmt"
	"math/rand"
	"slices"
	"strings"
	"testing"

	"amnesty/desk"
)

// atRest returns lines behind which the places a, b and c are there, with stores that are saved.
func atRest(open map[string]string) []string {
	var lines []string
	for _, name := range []string{"a", "b", "c"} {
		lines = append(lines, open[name], "save "+name+" 0 64", "mount "+name, "save "+name)
	}
	return lines
}

// lookLines are the looks at three places.
var lookLines = []string{"look a", "size a", "look b", "size b", "look c", "size c"}

// TestT8Looks: a script with crashes, and the script that puts what is left, end with the same looks.
func TestT8Looks(t *testing.T) {
	open := map[string]string{"a": "open a " + seed1 + " 64", "b": "open b " + seed1 + " 64", "c": "open c " + seed2 + " 100"}
	for seed := range int64(30) {
		r := rand.New(rand.NewSource(seed))
		history := []string{open["a"], open["b"], open["c"]}
		for size := 0; size < 12000; size += len(history[len(history)-1]) + 1 {
			line := anyLine(r)
			if strings.HasPrefix(line, "open") || strings.HasPrefix(line, "close") {
				line = "mount c"
			}
			history = append(history, line)
		}
		history = append(history, atRest(open)...)
		answers := run(t, append(history, lookLines...)...)

		p := plain{}
		for _, line := range history {
			p.answer(line)
		}
		var short []string
		for _, name := range []string{"c", "b", "a"} {
			short = append(short, open[name])
			lines := recordLines(t, p[name].seed, p[name].store.Records())
			for i, line := range lines {
				lines[i] = "do " + name + " " + line
			}
			short = append(append(short, lines...), "save "+name)
		}
		again := run(t, append(short, lookLines...)...)
		n := len(lookLines)
		if got, want := answers[len(answers)-n:], again[len(again)-n:]; !slices.Equal(got, want) {
			t.Fatalf("seed %d: %q, not %q", seed, got, want)
		}
	}
}

// TestT8Example2 is the chapter's second example.
func TestT8Example2(t *testing.T) {
	for _, more := range [][]string{nil, {"save a"}, {"save a 7 7", "mount a"}, {"save a 9 9", "mount a 3 3", "mount a"}} {
		script := slices.Concat([]string{"open a " + seed1 + " 16", "open b " + seed1 + " 16", "do a put k 1 2 3 \"red fox\" -> new"}, more, []string{"do a drop k", "save a", "save b -> saved 7", "look a", "look b", "size a", "size b"})
		answers := run(t, script...)
		same(t, answers, -4, answers, -3)
		same(t, answers, -2, answers, -1)
	}
}

// TestT4Forgetting: whatever was done to a record that went, the bytes are those of a place that never had it.
func TestT4Forgetting(t *testing.T) {
	open, put := "open a "+seed1+" 64", "do a put left 4 5 6 \"blue fox\""
	want := run(t, open, put, "save a", "look a", "size a")
	for _, done := range [][]string{
		{"do a put k 1 2 3 \"red fox\" -> new", "do a drop k -> gone"},
		{"do a put k 1 2 3 \"red fox\" -> new", "save a", "do a put k 1 1 1 \"changed\" -> changed", "save a", "do a drop k -> gone"},
		{"do a put k 1 2 3 \"red fox\" -> new", "do a hold k me -> ok", "do a drop k -> due", "save a", "mount a -> up 0", "do a free k me -> gone"},
		{"do a put k 1 2 3 \"red fox\" -> new", "do a put left 1 1 1 \"x\" -> new", "save a 8 8 -> down", "mount a"},
		{"do a put k 1 2 3 \"red fox\" -> new", "mirror a b", "do b drop k -> gone", "mirror b a"},
		{"do b put k 1 2 3 \"red fox\" -> new", "mirror b a", "save a", "mirror a b -> 1", "do a drop k -> gone", "save b"},
	} {
		for _, rest := range [][]string{{"save a"}, {"mount a", put, "save a"}} {
			script := slices.Concat([]string{open, "open b " + seed1 + " 64"}, done, []string{put}, rest, []string{"do a free k me", "do a drop k", "save a", "look a", "size a"})
			answers := run(t, script...)
			same(t, answers, -2, want, -2)
			same(t, answers, -1, want, -1)
		}
	}
}

// TestT3Disks: behind each save and each mount that does not fail, the disk is that of a place which saved the same at once.
func TestT3Disks(t *testing.T) {
	for power := range 40 {
		script := append(slices.Clone(change), fmt.Sprintf("save a %d 20", power), "mount a", "look a", "do a free old me", "do a drop old", "do a drop new", "save a", "look a")
		answers := run(t, script...)
		fresh := run(t, "open a "+seed1+" 24", "save a", "look a")
		same(t, answers, -1, fresh, -1)
	}
}

// TestT5Replicas: a replica that was mirrored has the bytes of its source, and the messages are few.
func TestT5Replicas(t *testing.T) {
	for seed := range int64(20) {
		r := rand.New(rand.NewSource(seed))
		lines := []string{"open a " + seed2 + " 200", "open b " + seed2 + " 200"}
		for range 60 {
			key := fmt.Sprintf("k%d", r.Intn(50))
			lines = append(lines, fmt.Sprintf(`do a put %s 1 2 3 "x"`, key), fmt.Sprintf(`do b put %s 1 2 3 "x"`, key))
		}
		for range r.Intn(6) {
			lines = append(lines, "do "+string("ab"[r.Intn(2)])+" "+anyChange(r))
		}
		answers := run(t, append(lines, "mirror a b", "save a", "save b", "look a", "look b", "size a", "size b", "mirror a b -> 1")...)
		same(t, answers, -5, answers, -4)
		same(t, answers, -3, answers, -2)
	}
}

// TestT1Orders: the order in which records came tells nothing.
func TestT1Orders(t *testing.T) {
	var puts []string
	for i := range 30 {
		puts = append(puts, fmt.Sprintf(`do a put k%d %d %d %d "text %d"`, i, i, 30-i, i%8, i%5))
	}
	r := rand.New(rand.NewSource(1))
	var want []string
	for range 20 {
		r.Shuffle(len(puts), func(i, j int) { puts[i], puts[j] = puts[j], puts[i] })
		script := slices.Concat([]string{"open a " + seed1 + " 100"}, puts[:15], []string{"save a"}, puts[15:], []string{"save a", "look a", "size a", "do a digest", "do a view", "do a proof k7"})
		answers := run(t, script...)
		if want == nil {
			want = answers[len(answers)-5:]
		}
		if got := answers[len(answers)-5:]; !slices.Equal(got, want) {
			t.Fatalf("%q, not %q", got, want)
		}
	}
}

// TestP1AnyBytes: scripts of any bytes have answers.
func TestP1AnyBytes(t *testing.T) {
	r := rand.New(rand.NewSource(1))
	for range 300 {
		script := make([]byte, r.Intn(3000))
		for i := range script {
			script[i] = byte(r.Intn(256))
		}
		check(t, string(script))
		for i := range script {
			script[i] = "\n\n  aab08\"lookdosavemnt"[r.Intn(23)]
		}
		check(t, string(script))
	}
}

// TestP2NothingChanges: lines that are answered with what is no success leave all places as they are.
func TestP2NothingChanges(t *testing.T) {
	begin := append(slices.Clone(twoPlaces), "open s "+seed2+" 8 -> ok", `do s put big 1 2 3 "`+strings.Repeat("x", 180)+`" -> new`)
	all := []string{"look a", "look b", "look s", "size a", "size b", "size s", "look x"}
	for _, line := range []string{"open a " + seed2 + " 9 -> twice", "open x " + seed1 + " 7 -> bad", "close x -> none", "do x count -> none", "do b put k 1 1 1 \"x\" -> down", "do a put K 1 1 1 \"x\" -> bad", "do a drop k -> none", "save x -> none", "save b -> down", "save b 1 1 -> down", "save s -> full", "save s 0 0 -> full", "mount x -> none", "mount x 1 1 -> none", "mirror a x -> none", "mirror x b -> none", "mirror a b -> down", "mirror b a -> down", "mirror a a -> bad", "mirror s a -> bad", "mirror a s -> bad", "look x -> none", "size x -> none", "look a", "size a", "", "   "} {
		answers := run(t, slices.Concat(begin, all, []string{line}, all)...)
		n, m := len(begin), len(all)
		if !slices.Equal(answers[n:n+m], answers[n+m+1:]) {
			t.Errorf("%q has changed something", line)
		}
	}
}

// TestP3Answers: the answers of one script share no memory with those of another one.
func TestP3Answers(t *testing.T) {
	script := strings.Join(append(slices.Clone(change[:1]), "look a", "size a", "x"), "\n")
	script = strings.ReplaceAll(script, " -> ok", "")
	first := desk.Run(script)
	want := slices.Clone(first)
	second := desk.Run(script)
	clear(first[:cap(first)])
	if !slices.Equal(second, want) || !slices.Equal(desk.Run(script), want) {
		t.Errorf("%q, not %q", second, want)
	}
}

// TestP4Again: a script has the same answers each time, whatever ran before; no place outlives its script.
func TestP4Again(t *testing.T) {
	for seed := range int64(10) {
		script := strings.Join(anyScript(rand.New(rand.NewSource(seed)), 5000), "\n")
		want := desk.Run(script)
		desk.Run("open a " + seed1 + " 8\ndo a put k 1 1 1 \"x\"\nsave a")
		for range 3 {
			if got := desk.Run(script); !slices.Equal(got, want) {
				t.Fatalf("%q, not %q", got, want)
			}
		}
		run(t, "look a -> none", "size b -> none", "close c -> none")
	}
}

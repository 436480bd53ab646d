package desk_test

import (
	"fmt"
	"math/rand"
	"slices"
	"strings"
	"testing"

	"amnesty/desk"
)

const (
	seed1 = "0000000000000001"
	seed2 = "fedcba9876543210"
)

// twoPlaces are the lines behind which a place is up and another one is down.
var twoPlaces = []string{"open a " + seed1 + " 8 -> ok", `do a put r 1 2 3 "red fox" -> new`, "open b " + seed1 + " 8 -> ok", "save b 0 0 -> down"}

// checkBad runs lines that are not allowed, ahead of places, and behind them: where they change nothing.
func checkBad(t *testing.T, lines ...string) {
	t.Helper()
	for _, line := range lines {
		run(t, line+" -> bad")
		looks := []string{"look a", "size a", "look b", "size b", "look c"}
		script := append(slices.Concat(twoPlaces, looks, []string{line + " -> bad"}), looks...)
		answers := run(t, script...)
		if n := len(looks); !slices.Equal(answers[4:4+n], answers[5+n:]) {
			t.Fatalf("%.300q has changed something: %q", line, answers)
		}
	}
}

// TestP8_1Example is the chapter's first example.
func TestP8_1Example(t *testing.T) {
	run(t, "open a 0000000000000001 8 -> ok", "do a count -> 0", "save a -> saved 7")
}

// TestP8_1Lines: lines are what stands between newlines.
func TestP8_1Lines(t *testing.T) {
	for script, want := range map[string][]string{
		"":                          {""},
		"\n":                        {"", ""},
		"\n\n\n":                    {"", "", "", ""},
		" ":                         {""},
		"  \n \n":                   {"", "", ""},
		"x":                         {"bad"},
		"x\n":                       {"bad", ""},
		"\nx":                       {"", "bad"},
		"look a":                    {"none"},
		"look a\n":                  {"none", ""},
		"look a\n\nlook a":          {"none", "", "none"},
		"look a\r\nlook a\r\n":      {"bad", "bad", ""},
		"look a\rlook a":            {"bad"},
		"look\na":                   {"bad", "bad"},
		"look a\x00\n\x00":          {"bad", "bad"},
		"look a\u0085look a\u2028 ": {"bad"},
	} {
		if got := check(t, script); !slices.Equal(got, want) {
			t.Errorf("%q: %q, not %q", script, got, want)
		}
	}
}

// TestP8_1MaxScript: a script of MaxScript bytes has answers, a longer one has none.
func TestP8_1MaxScript(t *testing.T) {
	for _, fill := range []string{"\n", "look a\n", strings.Repeat(" ", 600) + "\n", "x\n"} {
		script := strings.Repeat(fill, 20000/len(fill)+1)
		for _, size := range []int{19999, 20000} {
			if got := check(t, script[:size]); len(got) != strings.Count(script[:size], "\n")+1 {
				t.Errorf("%q, %d bytes: %d answers", fill, size, len(got))
			}
		}
		if got := desk.Run(script[:20000] + "\n"); len(got) != 0 {
			t.Errorf("%q, 20001 bytes: %d answers", fill, len(got))
		}
		if got := desk.Run(script + script); len(got) != 0 {
			t.Errorf("%q twice: %d answers", fill, len(got))
		}
	}
	if got := check(t, strings.Repeat("\n", 20000)); len(got) != 20001 || strings.Join(got, "") != "" {
		t.Errorf("20000 newlines: %d answers", len(got))
	}
}

// TestP8_1EmptyLines: a line of spaces alone has no answer, unless it is too long.
func TestP8_1EmptyLines(t *testing.T) {
	for _, n := range []int{0, 1, 2, 8, 599, 600} {
		run(t, strings.Repeat(" ", n)+" -> ")
	}
	for _, n := range []int{601, 602, 1200, 20000} {
		if got := check(t, strings.Repeat(" ", n)); !slices.Equal(got, []string{"bad"}) {
			t.Errorf("%d spaces: %q", n, got)
		}
	}
	if got := check(t, " \t "); !slices.Equal(got, []string{"bad"}) {
		t.Errorf("a tab: %q", got)
	}
}

// ordinary are lines of each form.
var ordinary = []string{
	"open c " + seed2 + " 8", "close b", "do a count", `do a put s 4 5 6 "a b"`, "save a", "save a 3 4", "save a 100 0",
	"mount b", "mount b 0 0", "mount b 100 64", "mirror a a", "look a", "size b",
}

// TestP8_1Length: a line of MaxText bytes is allowed, a longer one is not, also with a line for a store.
func TestP8_1Length(t *testing.T) {
	for _, line := range ordinary {
		want := run(t, append(slices.Clone(twoPlaces), line)...)[4]
		pad := 600 - len(line)
		for _, before := range []int{0, 1, pad / 2, pad} {
			padded := strings.Repeat(" ", before) + line + strings.Repeat(" ", pad-before)
			run(t, append(slices.Clone(twoPlaces), padded+" -> "+want)...)
			checkBad(t, padded+" ", " "+padded)
		}
	}
	run(t, slices.Concat(twoPlaces, []string{`do a ask "` + strings.Repeat("a", 588) + ` -> bad`, "do " + strings.Repeat(" ", 590) + "a count -> 1", "do " + strings.Repeat(" ", 591) + "a count -> bad", "do a " + strings.Repeat(" ", 590) + "count -> 1", "do a " + strings.Repeat(" ", 591) + "count -> bad"})...)
}

// TestP8_1Bytes: a byte outside 32 to 126 is not allowed, also in a line for a store, and where there is no place.
func TestP8_1Bytes(t *testing.T) {
	for _, c := range []byte{0, 1, 9, 11, 12, 13, 27, 31, 127, 128, 133, 160, 255} {
		x := string([]byte{c})
		checkBad(t, x, "look a"+x, x+"look a", "look"+x+"a", "do a count"+x, "do a"+x+"count", `do a put s 1 1 1 "`+x+`"`, `do none ask "`+x+`"`, " "+x+" ")
	}
	run(t, slices.Concat(twoPlaces, []string{`do a put s 1 1 1 " !#$%&'()*+,-./0123456789:;<=>?@AZ[]^_` + "`" + `az{|}~" -> new`})...)
}

// TestP8_1Spaces: one or more between words, some at both ends.
func TestP8_1Spaces(t *testing.T) {
	for _, line := range ordinary {
		want := run(t, append(slices.Clone(twoPlaces), line)...)[4]
		words := strings.Fields(line)
		for _, spaced := range []string{"  " + strings.Join(words[:2], "   ") + "  " + strings.Join(words[2:], " "), line + "   ", " " + line + " "} {
			run(t, append(slices.Clone(twoPlaces), spaced+" -> "+want)...)
		}
		checkBad(t, strings.Join(words, ""), strings.Join(words, "\t"), strings.Join(words, ","), strings.Join(words[:2], ""))
	}
}

// TestP8_1FirstWords: words that no command has, also such as a store has.
func TestP8_1FirstWords(t *testing.T) {
	checkBad(t, "shout a", "x", "-", "0", "a", "b", "put", "count", "get r", `put r 1 1 1 "x"`, `"`, `""`, `" "`, "run", "opens a "+seed1+" 8", "doo a count", "d a count", "looks a", "sizes a")
	for _, line := range ordinary {
		first, others, _ := strings.Cut(line, " ")
		for _, other := range []string{strings.ToUpper(first), strings.ToUpper(first[:1]) + first[1:], first + "s", first[1:], first + ".", `"` + first + `"`, "'" + first + "'", first + `"`, `"` + first} {
			checkBad(t, other+" "+others)
		}
	}
}

// TestP8_1NumberOfWords: a word too few, and a word too many, wherever it stands. (All words behind the second one of a line with do belong to the line for the store.)
func TestP8_1NumberOfWords(t *testing.T) {
	checkBad(t, "open", "close", "do", "save", "mount", "mirror", "look", "size", "do   ", "  look  ")
	checkBad(t, "open a", "open a "+seed1, "open a 8", "save a 1", "save a 1 1 1", "mount b 1", "mount b 1 1 1", "mirror a", "mirror a b c", "look a b", "size a b", "close a b", "look a 1", "size a 1 1", "close a 1")
	for _, line := range ordinary {
		words := strings.Fields(line)
		if words[0] == "do" {
			continue
		}
		for i := range len(words) + 1 {
			for _, more := range []string{"a", "1", seed1, `""`, `"a"`} {
				checkBad(t, strings.Join(slices.Insert(slices.Clone(words), i, more), " "))
			}
		}
	}
}

// TestP8_1Quotes: no word that is read here is quoted.
func TestP8_1Quotes(t *testing.T) {
	for _, line := range ordinary {
		words := strings.Fields(line)
		for i := range words {
			if words[0] == "do" && i > 1 {
				continue
			}
			for _, quoted := range []string{`"` + words[i] + `"`, `"` + words[i], words[i] + `"`, words[i] + `""`, `""` + words[i], `" ` + words[i] + `"`, `""`, `"`} {
				spoiled := slices.Clone(words)
				spoiled[i] = quoted
				checkBad(t, strings.Join(spoiled, " "))
			}
		}
		checkBad(t, `"`+line+`"`)
		if words[0] != "do" {
			checkBad(t, line+`"`, line+` "`, line+` ""`, line+`""`)
		}
	}
}

// TestP8_1Names: places have names like records' keys.
func TestP8_1Names(t *testing.T) {
	for _, name := range []string{"a", "z", "0", "9", "azaz0909", "12345678", "open", "do", "bad", "00"} {
		run(t, "look "+name+" -> none", "open "+name+" "+seed1+" 8 -> ok", "do "+name+" count -> 0", "save "+name+" -> saved 7", "mount "+name+" -> up 0", "size "+name, "mirror "+name+" "+name+" -> bad", "close "+name+" -> ok", "size "+name+" -> none")
	}
	for _, name := range []string{"A", "aA", "Z", "abcdefghi", "123456789", "a-b", "a.", "_", "*", "a'", "/", ":", "`", "{", "@", "[", `\`, "-1", `"a"`, `a"`, `"`, `""`, "~", "!"} {
		checkBad(t, "open "+name+" "+seed1+" 8", "close "+name, "do "+name+" count", "do "+name, "save "+name, "save "+name+" 1 1", "mount "+name, "mount "+name+" 1 1", "mirror "+name+" b", "mirror a "+name, "mirror c "+name, "look "+name, "size "+name)
	}
}

// TestP8_1Seeds: seeds are 16 small hexadecimal digits.
func TestP8_1Seeds(t *testing.T) {
	for _, seed := range []string{"0000000000000000", "ffffffffffffffff", "8000000000000000", "7fffffffffffffff", "0123456789abcdef", seed1, seed2} {
		run(t, "open a "+seed+" 8 -> ok", "do a receipt r", "do a put k 1 1 1 \"x\" -> new", "save a", "do a digest", "look a")
	}
	for _, seed := range []string{"0", "1", "000000000000001", "00000000000000001", "0123456789ABCDEF", "0123456789abcdeF", "0123456789abcdeg", "-000000000000001", "+000000000000001", "0x00000000000001", "000000000000000'", "0000000_00000001", "00000000 00000001", "fffffffffffffffff", `"0000000000000001"`, "00000000000000:1", "00000000000000/1", "00000000000000`1"} {
		checkBad(t, "open c "+seed+" 8", "open a "+seed+" 8")
	}
}

// TestP8_1Cells: a disk has 8 to MaxCells cells.
func TestP8_1Cells(t *testing.T) {
	for _, cells := range []int{8, 9, 10, 100, 1023, 1024} {
		run(t, fmt.Sprintf("open a %s %d -> ok", seed1, cells), fmt.Sprintf("size a -> 0 %d", 30+64*(1+3*cells)), "save a -> saved 7", "do a count -> 0")
	}
	for _, cells := range []string{"0", "1", "7", "1025", "1026", "9999", "999999999", "1000000000", "4294967304", "18446744073709551624", "08", "008", "0008", "-8", "+8", "8.0", "8a", "a", "0x8", "1e2", "1_0", "'8'", `"8"`, `8"`, "-0", "00"} {
		checkBad(t, "open c "+seed1+" "+cells, "open a "+seed1+" "+cells)
	}
}

// TestP8_1Power: the numbers behind which the power fails have up to 9 digits.
func TestP8_1Power(t *testing.T) {
	for _, number := range []string{"7", "8", "64", "65", "1000", "99999999", "999999999", "536870912"} {
		for _, torn := range []string{"0", "1", "63", "64", "65", "999999999"} {
			run(t, "open a "+seed1+" 8 -> ok", "save a "+number+" "+torn+" -> saved 7", "mount a "+number+" "+torn+" -> up 0")
			run(t, "open a "+seed1+" 8 -> ok", "save a 0 "+torn+" -> down", "mount a "+number+" "+torn)
		}
	}
	for _, number := range []string{"-1", "-0", "+1", "00", "01", "007", "1000000000", "9999999999", "4294967303", "18446744073709551623", "1.0", "1e2", "0x1", "1_0", "a", "1a", "'1'", `"1"`, `1"`, "-"} {
		checkBad(t, "save a "+number+" 1", "save a 1 "+number, "mount b "+number+" 1", "mount b 1 "+number, "mount a "+number+" "+number, "save c 1 "+number)
	}
}

// TestP8_1Spoiled: lines with a byte more, less or another one are answered as the forms of the table tell.
func TestP8_1Spoiled(t *testing.T) {
	const bytes = " \"'azAZ0189-+.\\~\x00\x1f\x7f\xff"
	r := rand.New(rand.NewSource(1))
	kinds := map[bool]int{}
	for _, line := range ordinary {
		for range 400 {
			spoiled := []byte(line)
			for range 1 + r.Intn(2) {
				at, c := r.Intn(len(spoiled)), bytes[r.Intn(len(bytes))]
				switch r.Intn(3) {
				case 0:
					spoiled[at] = c
				case 1:
					spoiled = slices.Insert(spoiled, at, c)
				default:
					spoiled = slices.Delete(spoiled, at, at+1)
				}
			}
			answers := run(t, append(slices.Clone(twoPlaces), string(spoiled), "look a", "look b", "look c")...)
			kinds[answers[4] == "bad"]++
		}
	}
	if kinds[true] < 100 || kinds[false] < 100 {
		t.Errorf("%v", kinds)
	}
}

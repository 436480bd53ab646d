package learn_test

import (
	"bytes"
	"math/big"
	"math/rand"
	"slices"
	"testing"

	"amnesty/api"
	"amnesty/learn"
)

type point = [api.Columns]int

func row(a, b, c, label int) api.Row { return api.Row{X: point{a, b, c}, Label: label} }

func frac(num, den int64) api.Frac { return api.Frac{Num: num, Den: den} }

// plain is the content of a model: how often it has each row. What a model of it tells is worked out from the list of the rows alone, as P5.1 to P5.6 say it.
type plain map[api.Row]int

// plainOf returns the content of some rows.
func plainOf(rows ...api.Row) plain {
	p := plain{}
	for _, r := range rows {
		p[r]++
	}
	return p
}

// place is a row as numbers in the order in which P5.4 and P5.6 compare them, behind the square of a distance.
func place(r api.Row, from point) []int {
	square := 0
	for i := range r.X {
		d := r.X[i] - from[i]
		square += d * d
	}
	return append(append([]int{square}, r.X[:]...), r.Label)
}

// different returns the different rows in order.
func (p plain) different() []api.Row {
	var rows []api.Row
	for r := range p {
		rows = append(rows, r)
	}
	slices.SortFunc(rows, func(a, b api.Row) int { return slices.Compare(place(a, point{})[1:], place(b, point{})[1:]) })
	return rows
}

// rows returns the rows, each as often as it is there, in order.
func (p plain) rows() []api.Row {
	var rows []api.Row
	for _, r := range p.different() {
		rows = append(rows, slices.Repeat([]api.Row{r}, p[r])...)
	}
	return rows
}

// counts counts the rows of each label.
func (p plain) counts() [api.Labels]int { return countsOf(p.rows()) }

func countsOf(rows []api.Row) (counts [api.Labels]int) {
	for _, r := range rows {
		counts[r.Label]++
	}
	return counts
}

// image is P5.6.
func (p plain) image() []byte {
	image := []byte{byte(len(p) / 256), byte(len(p) % 256)}
	for _, r := range p.different() {
		for _, x := range r.X {
			image = append(image, byte((x+1000)/256), byte((x+1000)%256))
		}
		image = append(image, byte(r.Label), byte(p[r]/256), byte(p[r]%256))
	}
	return image
}

// line is P5.2, with the slope from the differences of all pairs of rows, and the base from their means.
func (p plain) line(by, of int) (slope, base api.Frac, err api.Errno) {
	rows := p.rows()
	var up, square, x, y int64
	for i, r := range rows {
		x, y = x+int64(r.X[by]), y+int64(r.X[of])
		for _, q := range rows[:i] {
			d := int64(r.X[by] - q.X[by])
			up, square = up+d*int64(r.X[of]-q.X[of]), square+d*d
		}
	}
	if square == 0 {
		return slope, base, api.ErrNone
	}
	n := int64(len(rows))
	s := big.NewRat(up, square)
	b := new(big.Rat).Mul(s, big.NewRat(x, n))
	b.Sub(big.NewRat(y, n), b)
	return fracOf(s), fracOf(b), api.OK
}

func fracOf(r *big.Rat) api.Frac { return frac(r.Num().Int64(), r.Denom().Int64()) }

// measure is that of P5.3 for a cut into these parts.
func measure(parts ...[]api.Row) *big.Rat {
	sum := new(big.Rat)
	for _, part := range parts {
		n := int64(len(part))
		sum.Add(sum, big.NewRat(n, 1))
		for _, c := range countsOf(part) {
			sum.Sub(sum, big.NewRat(int64(c)*int64(c), n))
		}
	}
	return sum
}

// partsOf returns the parts of a cut.
func partsOf(rows []api.Row, column, cut int) (low, high []api.Row) {
	for _, r := range rows {
		if r.X[column] <= cut {
			low = append(low, r)
		} else {
			high = append(high, r)
		}
	}
	return low, high
}

// numbers returns the different numbers of a column, in rising order.
func numbers(rows []api.Row, column int) []int {
	var list []int
	for _, r := range rows {
		list = append(list, r.X[column])
	}
	slices.Sort(list)
	return slices.Compact(list)
}

// mostOf is the label of most rows, of equal ones the least.
func mostOf(counts [api.Labels]int) int {
	best := 0
	for label, c := range counts {
		if c > counts[best] {
			best = label
		}
	}
	return best
}

// tree is P5.3 for some rows: each number that a row has is tried as a cut.
func tree(rows []api.Row, levels, least int) []api.Branch {
	counts := countsOf(rows)
	leaf := []api.Branch{{Low: -1, High: -1, Label: mostOf(counts), Rows: len(rows)}}
	if levels == 0 || len(rows) < least || counts[mostOf(counts)] == len(rows) {
		return leaf
	}
	var best *big.Rat
	var column, cut int
	for c := range api.Columns {
		for _, at := range numbers(rows, c) {
			low, high := partsOf(rows, c, at)
			if len(low) == 0 || len(high) == 0 {
				continue
			}
			if m := measure(low, high); best == nil || m.Cmp(best) < 0 {
				best, column, cut = m, c, at
			}
		}
	}
	if best == nil {
		return leaf
	}
	low, high := partsOf(rows, column, cut)
	lowTree, highTree := tree(low, levels-1, least), tree(high, levels-1, least)
	whole := []api.Branch{{Column: column, Cut: cut, Low: 1, High: 1 + len(lowTree), Label: -1, Rows: len(rows)}}
	return slices.Concat(whole, moved(lowTree, 1), moved(highTree, 1+len(lowTree)))
}

// moved returns a tree whose root stands further behind.
func moved(tree []api.Branch, by int) []api.Branch {
	tree = slices.Clone(tree)
	for i := range tree {
		if tree[i].Label == -1 {
			tree[i].Low += by
			tree[i].High += by
		}
	}
	return tree
}

// vote is P5.4: the voters are taken out one after another.
func (p plain) vote(x point, k int) (int, api.Errno) {
	rest := p.rows()
	var votes []int
	for len(rest) > 0 && len(votes) < k {
		best := 0
		for i, r := range rest {
			if slices.Compare(place(r, x), place(rest[best], x)) < 0 {
				best = i
			}
		}
		votes = append(votes, rest[best].Label)
		rest = slices.Delete(rest, best, best+1)
	}
	if len(votes) == 0 {
		return 0, api.ErrNone
	}
	won := votes[0]
	number := func(label int) (n int) {
		for _, v := range votes {
			if v == label {
				n++
			}
		}
		return n
	}
	for _, v := range votes {
		if number(v) > number(won) {
			won = v
		}
	}
	return won, api.OK
}

// guess is P5.5.
func (p plain) guess(x point) (int, api.Errno) {
	best, greatest := 0, new(big.Rat)
	for label, n := range p.counts() {
		worth := big.NewRat(int64(n), 1)
		for i := range x {
			equal := 0
			for _, r := range p.rows() {
				if r.Label == label && r.X[i] == x[i] {
					equal++
				}
			}
			worth.Mul(worth, big.NewRat(int64(equal+1), int64(n+2)))
		}
		if n > 0 && worth.Cmp(greatest) > 0 {
			best, greatest = label, worth
		}
	}
	if greatest.Sign() == 0 {
		return 0, api.ErrNone
	}
	return best, api.OK
}

// model returns a model that learned the content.
func (p plain) model(t *testing.T) *learn.Model {
	t.Helper()
	m := learn.New()
	for _, r := range p.rows() {
		learnRow(t, m, r)
	}
	return m
}

func learnRow(t *testing.T, m *learn.Model, r api.Row) {
	t.Helper()
	if e := m.Learn(r); e != api.OK {
		t.Fatalf("Learn(%v): %d", r, e)
	}
}

func unlearnRow(t *testing.T, m *learn.Model, r api.Row) {
	t.Helper()
	if e := m.Unlearn(r); e != api.OK {
		t.Fatalf("Unlearn(%v): %d", r, e)
	}
}

// check holds what a model has against its content.
func (p plain) check(t *testing.T, m *learn.Model) {
	t.Helper()
	if m.Len() != len(p.rows()) || m.Counts() != p.counts() {
		t.Fatalf("Len %d and Counts %v, expected %d and %v", m.Len(), m.Counts(), len(p.rows()), p.counts())
	}
	if got, want := m.Image(), p.image(); !bytes.Equal(got, want) {
		t.Fatalf("the image of %v is\n%v, expected\n%v", p, got, want)
	}
}

// checkLines holds all lines of a model against its content.
func (p plain) checkLines(t *testing.T, m *learn.Model) {
	t.Helper()
	for by := range api.Columns {
		for of := range api.Columns {
			s, b, e := p.line(by, of)
			checkLine(t, m, by, of, s, b, e)
		}
	}
}

func checkLine(t *testing.T, m *learn.Model, by, of int, slope, base api.Frac, err api.Errno) {
	t.Helper()
	if s, b, e := m.Line(by, of); s != slope || b != base || e != err {
		t.Errorf("Line(%d, %d): %v, %v, %d, expected %v, %v, %d", by, of, s, b, e, slope, base, err)
	}
}

// checkTree holds a tree against the content of a model.
func (p plain) checkTree(t *testing.T, m *learn.Model, levels, least int) {
	t.Helper()
	checkTree(t, m, levels, least, tree(p.rows(), levels, least)...)
}

func checkTree(t *testing.T, m *learn.Model, levels, least int, want ...api.Branch) {
	t.Helper()
	if got, e := m.Tree(levels, least); e != api.OK || !slices.Equal(got, want) {
		t.Errorf("Tree(%d, %d): %+v, %d, expected\n%+v", levels, least, got, e, want)
	}
}

// checkAt holds what a model tells of a point against its content.
func (p plain) checkAt(t *testing.T, m *learn.Model, x point, k int) {
	t.Helper()
	label, e := p.vote(x, k)
	checkVote(t, m, x, k, label, e)
	label, e = p.guess(x)
	checkGuess(t, m, x, label, e)
}

func checkVote(t *testing.T, m *learn.Model, x point, k, label int, err api.Errno) {
	t.Helper()
	if got, e := m.Vote(x, k); got != label || e != err {
		t.Errorf("Vote(%v, %d): %d, %d, expected %d, %d", x, k, got, e, label, err)
	}
}

func checkGuess(t *testing.T, m *learn.Model, x point, label int, err api.Errno) {
	t.Helper()
	if got, e := m.Guess(x); got != label || e != err {
		t.Errorf("Guess(%v): %d, %d, expected %d, %d", x, got, e, label, err)
	}
}

// anyPoint returns a point with numbers of at most so much.
func anyPoint(r *rand.Rand, most int) (x point) {
	for i := range x {
		x[i] = r.Intn(2*most+1) - most
	}
	return x
}

// anyRow returns a row with numbers of at most so much, and one of so many labels.
func anyRow(r *rand.Rand, most, labels int) api.Row {
	return api.Row{X: anyPoint(r, most), Label: r.Intn(labels)}
}

// anyPlain returns so many rows.
func anyPlain(r *rand.Rand, rows, most, labels int) plain {
	p := plain{}
	for range rows {
		p[anyRow(r, most, labels)]++
	}
	return p
}

package learn_test

import (
	"math"
	"math/rand"
	"testing"

	"amnesty/api"
	"amnesty/learn"
)

func leaf(label, rows int) api.Branch { return api.Branch{Low: -1, High: -1, Label: label, Rows: rows} }

func branch(column, cut, low, high, rows int) api.Branch {
	return api.Branch{Column: column, Cut: cut, Low: low, High: high, Label: -1, Rows: rows}
}

func TestP5_3Example(t *testing.T) {
	m := three().model(t)
	checkTree(t, m, 1, 2, branch(0, 1, 1, 2, 3), leaf(0, 2), leaf(1, 1))
	checkTree(t, m, 0, 1, leaf(0, 3))
	checkTree(t, m, 1, 4, leaf(0, 3))
}

func TestP5_3Refuses(t *testing.T) {
	m := three().model(t)
	for _, x := range [][2]int{{-1, 1}, {7, 1}, {math.MinInt, 1}, {math.MaxInt, 1}, {0, 0}, {6, 0}, {3, -1}, {3, math.MinInt}, {-1, 0}} {
		if got, e := m.Tree(x[0], x[1]); e != api.ErrArg || len(got) != 0 {
			t.Errorf("Tree(%d, %d): %v, %d, expected ErrArg", x[0], x[1], got, e)
		}
	}
	checkTree(t, m, 6, math.MaxInt, leaf(0, 3))
}

// TestP5_3Levels: as many levels of branches as are asked for, in the order of P5.3.
func TestP5_3Levels(t *testing.T) {
	m := learn.New()
	for i := range 4 {
		learnRow(t, m, row(5, i, 0, i%2))
	}
	checkTree(t, m, 0, 1, leaf(0, 4))
	checkTree(t, m, 1, 1, branch(1, 0, 1, 2, 4), leaf(0, 1), leaf(1, 3))
	checkTree(t, m, 2, 1, branch(1, 0, 1, 2, 4), leaf(0, 1), branch(1, 1, 3, 4, 3), leaf(1, 1), leaf(0, 2))
	for levels := 3; levels <= 6; levels++ {
		checkTree(t, m, levels, 1, branch(1, 0, 1, 2, 4), leaf(0, 1), branch(1, 1, 3, 4, 3), leaf(1, 1), branch(1, 2, 5, 6, 2), leaf(0, 1), leaf(1, 1))
	}
}

// TestP5_3LowFirst: the nodes of the Low part stand ahead of those of the High part, which has its place behind them all.
func TestP5_3LowFirst(t *testing.T) {
	m := plainOf(row(0, 0, 0, 0), row(0, 1, 0, 1), row(1, 0, 0, 2), row(1, 1, 0, 3)).model(t)
	checkTree(t, m, 2, 1, branch(0, 0, 1, 4, 4), branch(1, 0, 2, 3, 2), leaf(0, 1), leaf(1, 1), branch(1, 0, 5, 6, 2), leaf(2, 1), leaf(3, 1))
}

// TestP5_3Deepest: six levels of branches, all of them full or all of them one below another.
func TestP5_3Deepest(t *testing.T) {
	long, full := plain{}, plain{}
	for i := range 20 {
		long[row(i, 0, 0, i%8)]++
	}
	for i := range 128 {
		full[row(i, 0, 0, (i/4+i/16+i)%8)]++
	}
	for _, content := range []plain{long, full} {
		m := content.model(t)
		for levels := range 7 {
			content.checkTree(t, m, levels, 1)
			content.checkTree(t, m, levels, 5)
		}
	}
}

// TestP5_3Least: a node with fewer than least rows is a leaf, one with least rows is not, in the root and below it.
func TestP5_3Least(t *testing.T) {
	content := plainOf(row(0, 0, 0, 0), row(1, 0, 0, 1), row(2, 0, 0, 2), row(3, 0, 0, 2))
	m := content.model(t)
	whole := []api.Branch{branch(0, 1, 1, 4, 4), branch(0, 0, 2, 3, 2), leaf(0, 1), leaf(1, 1), leaf(2, 2)}
	checkTree(t, m, 6, 1, whole...)
	checkTree(t, m, 6, 2, whole...)
	checkTree(t, m, 6, 3, branch(0, 1, 1, 2, 4), leaf(0, 2), leaf(2, 2))
	checkTree(t, m, 6, 4, branch(0, 1, 1, 2, 4), leaf(0, 2), leaf(2, 2))
	checkTree(t, m, 6, 5, leaf(2, 4))
	// Copies are rows, too.
	twice := plain{row(0, 0, 0, 0): 2, row(1, 0, 0, 1): 1}.model(t)
	checkTree(t, twice, 6, 3, branch(0, 0, 1, 2, 3), leaf(0, 2), leaf(1, 1))
	checkTree(t, twice, 6, 4, leaf(0, 3))
}

// TestP5_3OneLabel: rows of one label are not cut, whatever their numbers.
func TestP5_3OneLabel(t *testing.T) {
	for label := range api.Labels {
		m := plainOf(row(0, 1, 2, label), row(3, 4, 5, label), row(-6, -7, -8, label)).model(t)
		checkTree(t, m, 6, 1, leaf(label, 3))
		checkTree(t, plainOf(row(1, 1, 1, label)).model(t), 6, 1, leaf(label, 1))
	}
}

// TestP5_3NoCut: rows that differ in their labels alone are a leaf, with the label of most of them, of equal ones the least.
func TestP5_3NoCut(t *testing.T) {
	for _, x := range []struct {
		content plain
		label   int
	}{
		{plain{row(4, 5, 6, 7): 1, row(4, 5, 6, 2): 1}, 2},
		{plain{row(4, 5, 6, 7): 2, row(4, 5, 6, 2): 1}, 7},
		{plain{row(4, 5, 6, 7): 2, row(4, 5, 6, 2): 2, row(4, 5, 6, 0): 1}, 2},
		{plain{row(4, 5, 6, 3): 3, row(4, 5, 6, 5): 3, row(4, 5, 6, 1): 2, row(4, 5, 6, 6): 3}, 3},
	} {
		checkTree(t, x.content.model(t), 6, 1, leaf(x.label, len(x.content.rows())))
	}
}

// TestP5_3Ties: of equal measures the least column, then the least cut.
func TestP5_3Ties(t *testing.T) {
	// All columns tell the labels apart.
	m := plainOf(row(1, 1, 1, 0), row(2, 2, 2, 1)).model(t)
	checkTree(t, m, 1, 1, branch(0, 1, 1, 2, 2), leaf(0, 1), leaf(1, 1))
	// The second and the third one do.
	m = plainOf(row(1, 7, 1, 0), row(1, 6, 2, 1)).model(t)
	checkTree(t, m, 1, 1, branch(1, 6, 1, 2, 2), leaf(1, 1), leaf(0, 1))
	// The least column wins though a later one has a lesser cut.
	m = plainOf(row(500, -500, -1000, 0), row(501, -499, -999, 1)).model(t)
	checkTree(t, m, 1, 1, branch(0, 500, 1, 2, 2), leaf(0, 1), leaf(1, 1))
	// The cuts at 0 and at 2 are equal: that at 1 is worse.
	m = plainOf(row(0, 0, 0, 0), row(1, 0, 0, 1), row(2, 0, 0, 0), row(3, 0, 0, 1)).model(t)
	checkTree(t, m, 1, 1, branch(0, 0, 1, 2, 4), leaf(0, 1), leaf(1, 3))
	// A third column is better than the first one.
	m = plainOf(row(0, 0, -5, 0), row(1, 0, -9, 1), row(2, 0, -5, 0), row(3, 0, -9, 1)).model(t)
	checkTree(t, m, 6, 1, branch(2, -9, 1, 2, 4), leaf(1, 2), leaf(0, 2))
}

// TestP5_3NoGain: a branch is made though its measure is that of the node itself.
func TestP5_3NoGain(t *testing.T) {
	m := plainOf(row(0, 0, 0, 0), row(0, 0, 0, 1), row(1, 0, 0, 0), row(1, 0, 0, 1)).model(t)
	checkTree(t, m, 6, 1, branch(0, 0, 1, 2, 4), leaf(0, 2), leaf(0, 2))
}

// lineOf returns rows along the first column with these labels, one behind another.
func lineOf(labels ...int) plain {
	content := plain{}
	for i, label := range labels {
		content[row(i, 0, 0, label)]++
	}
	return content
}

// TestP5_3Measure: the parts are weighed by their rows.
func TestP5_3Measure(t *testing.T) {
	// The measures of the cuts are 20/7, 8/3, 44/15, 2, 12/5, 8/3 and 20/7.
	m := lineOf(0, 1, 0, 1, 0, 0, 0, 0).model(t)
	checkTree(t, m, 1, 1, branch(0, 3, 1, 2, 8), leaf(0, 4), leaf(0, 4))
	// The cut at 0 leaves a part of one label, as that at 2 does: 3/2 and 4/3.
	m = lineOf(0, 1, 0, 1, 1).model(t)
	checkTree(t, m, 1, 1, branch(0, 2, 1, 2, 5), leaf(0, 3), leaf(1, 2))
}

// TestP5_3ExactTies: the cuts at 1 and at 5 have the measure 8/3, which floating sums of their parts would tell apart.
func TestP5_3ExactTies(t *testing.T) {
	for _, labels := range [][]int{{0, 1, 0, 0, 0, 1, 0, 0}, {0, 2, 0, 0, 0, 2, 0, 0}, {1, 0, 1, 1, 1, 0, 1, 1}} {
		m := lineOf(labels...).model(t)
		checkTree(t, m, 1, 1, branch(0, 1, 1, 2, 8), leaf(min(labels[0], labels[1]), 2), leaf(labels[0], 6))
	}
}

// TestP5_3BigParts: measures of many rows, which differ by little.
func TestP5_3BigParts(t *testing.T) {
	r := rand.New(rand.NewSource(5))
	for range 20 {
		content := plain{}
		for left := api.MaxRows; left > 0; {
			times := min(left, 1+r.Intn(120))
			content[anyRow(r, 1, 2)] += times
			left -= times
		}
		m := content.model(t)
		content.checkTree(t, m, 6, 1)
		content.checkTree(t, m, 6, 100)
	}
}

// TestP5_3GreatNumbers: cuts at the least numbers, and none at the greatest one.
func TestP5_3GreatNumbers(t *testing.T) {
	m := plainOf(row(-1000, 1000, 0, 3), row(1000, -1000, 0, 4)).model(t)
	checkTree(t, m, 6, 1, branch(0, -1000, 1, 2, 2), leaf(3, 1), leaf(4, 1))
	m = plainOf(row(1000, 999, 0, 3), row(1000, 1000, 0, 4)).model(t)
	checkTree(t, m, 6, 1, branch(1, 999, 1, 2, 2), leaf(3, 1), leaf(4, 1))
}

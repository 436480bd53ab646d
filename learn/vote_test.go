package learn_test

import (
	"math"
	"testing"

	"amnesty/api"
)

func TestP5_4Example(t *testing.T) {
	m := three().model(t)
	checkVote(t, m, point{2, 5, 0}, 1, 1, api.OK)
	checkVote(t, m, point{2, 5, 0}, 2, 1, api.OK)
	checkVote(t, m, point{0, 0, 0}, 9, 0, api.OK)
	checkVote(t, m, point{2, 5, 0}, 3, 0, api.OK)
}

func TestP5_4Refuses(t *testing.T) {
	m := three().model(t)
	for _, r := range beyond()[5:] {
		checkVote(t, m, r.X, 1, 0, api.ErrArg)
	}
	for _, k := range []int{0, -1, math.MinInt} {
		checkVote(t, m, point{2, 5, 0}, k, 0, api.ErrArg)
	}
	checkVote(t, m, point{1001, 0, 0}, 0, 0, api.ErrArg)
	for _, r := range atBounds() {
		three().checkAt(t, m, r.X, 1)
	}
}

// TestP5_4Many: more voters than there are rows are all rows.
func TestP5_4Many(t *testing.T) {
	m := three().model(t)
	for _, k := range []int{3, 4, 1000000, math.MaxInt} {
		checkVote(t, m, point{2, 5, 0}, k, 0, api.OK)
	}
}

// TestP5_4Order: rows of equal distance vote in the order of their columns, then of their labels.
func TestP5_4Order(t *testing.T) {
	around := plainOf(row(1, 0, 0, 5), row(-1, 0, 0, 4), row(0, 1, 0, 3), row(0, -1, 0, 2), row(0, 0, 1, 1), row(0, 0, -1, 0))
	m := around.model(t)
	for k := 1; k <= 7; k++ {
		checkVote(t, m, point{}, k, 4, api.OK)
	}
	for _, label := range []int{4, 2, 0, 1, 3, 5} {
		checkVote(t, m, point{}, 1, label, api.OK)
		for _, r := range around.different() {
			if r.Label == label {
				unlearnRow(t, m, r)
			}
		}
	}
	same := plainOf(row(3, 3, 3, 6), row(3, 3, 3, 2), row(3, 3, 3, 7)).model(t)
	for k := 1; k <= 4; k++ {
		checkVote(t, same, point{}, k, 2, api.OK)
	}
}

// TestP5_4FirstVote: of labels with equal votes the one that voted first wins, not the one that had so many first, and not the least.
func TestP5_4FirstVote(t *testing.T) {
	m := plainOf(row(1, 0, 0, 5), row(2, 0, 0, 3), row(3, 0, 0, 3), row(4, 0, 0, 5), row(5, 0, 0, 1)).model(t)
	for k, label := range []int{5, 5, 3, 5, 5} {
		checkVote(t, m, point{}, k+1, label, api.OK)
	}
	for k, label := range []int{1, 1, 1, 3, 5} {
		checkVote(t, m, point{9, 0, 0}, k+1, label, api.OK)
	}
}

// TestP5_4Copies: a row that is there several times votes as often, its copies one behind another.
func TestP5_4Copies(t *testing.T) {
	m := plain{row(0, 0, 0, 1): 3, row(0, 0, 0, 0): 2, row(1, 0, 0, 7): 6}.model(t)
	for k, label := range []int{0, 0, 0, 0, 1, 1, 1, 1, 7, 7, 7} {
		checkVote(t, m, point{}, k+1, label, api.OK)
	}
	checkVote(t, m, point{1, 0, 0}, 1, 7, api.OK)
}

// TestP5_4Squares: the squares of the distances decide, over all columns.
func TestP5_4Squares(t *testing.T) {
	m := plainOf(row(3, 0, 0, 0), row(2, 2, 0, 1), row(2, 1, 1, 2), row(-1, -1, -3, 3)).model(t)
	checkVote(t, m, point{}, 1, 2, api.OK)
	unlearnRow(t, m, row(2, 1, 1, 2))
	checkVote(t, m, point{}, 1, 1, api.OK)
	unlearnRow(t, m, row(2, 2, 0, 1))
	checkVote(t, m, point{}, 1, 0, api.OK)
	far := plainOf(row(1000, 1000, 1000, 1), row(1000, 1000, 999, 2), row(1000, 999, 1000, 3)).model(t)
	checkVote(t, far, point{-1000, -1000, -1000}, 1, 3, api.OK)
	checkVote(t, far, point{1000, 1000, 1000}, 1, 1, api.OK)
}

func TestP5_5Example(t *testing.T) {
	m := three().model(t)
	checkGuess(t, m, point{2, 5, 0}, 1, api.OK)
	checkGuess(t, m, point{0, 1, 0}, 0, api.OK)
}

func TestP5_5Refuses(t *testing.T) {
	m := three().model(t)
	for _, r := range beyond()[5:] {
		checkGuess(t, m, r.X, 0, api.ErrArg)
	}
	for _, r := range atBounds() {
		three().checkAt(t, m, r.X, 1)
	}
}

// TestP5_5Ties: of equal worths the least label, of labels that have rows.
func TestP5_5Ties(t *testing.T) {
	m := plainOf(row(1, 1, 1, 6), row(2, 2, 2, 3), row(3, 3, 3, 7)).model(t)
	checkGuess(t, m, point{9, 9, 9}, 3, api.OK)
	checkGuess(t, m, point{3, 3, 3}, 7, api.OK)
	checkGuess(t, m, point{1, 2, 3}, 3, api.OK)
	// 2 * 1/4 * 2/4 * 3/4 = 3/16 is more than 1/27, but 2 * 1/4 * 1/4 * 1/4 = 1/32 is less.
	m = plainOf(row(0, 1, 0, 5), row(0, 0, 0, 5), row(7, 7, 7, 2)).model(t)
	checkGuess(t, m, point{1, 1, 0}, 5, api.OK)
	checkGuess(t, m, point{9, 9, 9}, 2, api.OK)
}

// equalIn adds so many rows of a label, of which so many have a 0 in each column, the others another number.
func equalIn(content plain, label, rows, other int, equal point) {
	for i := range rows {
		r := row(other, other, other, label)
		for column := range equal {
			if i < equal[column] {
				r.X[column] = 0
			}
		}
		content[r]++
	}
}

// TestP5_5EqualWorths: worths are equal with other numbers of rows, too; floating products would tell some of them apart.
func TestP5_5EqualWorths(t *testing.T) {
	for _, x := range []struct {
		rows, other           int
		equal, equalToo       point
		withMore, withMoreToo int // columns in which one row more of either label is equal
	}{
		{1, 4, point{0, 0, 0}, point{0, 0, 1}, 2, 0}, // 1/27
		{1, 4, point{0, 1, 1}, point{1, 1, 1}, 0, 1}, // 4/27
		{3, 8, point{0, 0, 0}, point{0, 0, 2}, 0, 1}, // 3/125
		{3, 8, point{0, 0, 1}, point{0, 1, 2}, 1, 2}, // 6/125
		{3, 8, point{0, 1, 1}, point{1, 1, 2}, 2, 2}, // 12/125
		{3, 8, point{0, 1, 2}, point{0, 1, 8}, 1, 0}, // 18/125
		{3, 8, point{0, 0, 3}, point{0, 2, 3}, 0, 1}, // 12/125
	} {
		for _, labels := range [][2]int{{2, 5}, {5, 2}} {
			guess := func(equal, equalToo point, want int) {
				t.Helper()
				content := plain{}
				equalIn(content, labels[0], x.rows, 7, equal)
				equalIn(content, labels[1], x.other, 9, equalToo)
				checkGuess(t, content.model(t), point{}, want, api.OK)
			}
			guess(x.equal, x.equalToo, 2)
			more, moreToo := x.equal, x.equalToo
			more[x.withMore]++
			moreToo[x.withMoreToo]++
			guess(more, x.equalToo, labels[0])
			guess(x.equal, moreToo, labels[1])
		}
	}
}

// TestP5_5NearWorths: 203 * 64 * 103 * 178 / 205^3 is greater than 287 * 91 * 101 * 253 / 289^3, by a part of 10^15.
func TestP5_5NearWorths(t *testing.T) {
	for _, labels := range [][2]int{{2, 5}, {5, 2}} {
		content := plain{}
		equalIn(content, labels[0], 203, 7, point{63, 102, 177})
		equalIn(content, labels[1], 287, 9, point{90, 100, 252})
		checkGuess(t, content.model(t), point{}, labels[0], api.OK)
		content.checkAt(t, content.model(t), point{}, 1)
	}
}

// TestP5_5OneLabel: the one label that has rows is the guess, however far they are.
func TestP5_5OneLabel(t *testing.T) {
	for label := range api.Labels {
		checkGuess(t, plainOf(row(1000, 1000, 1000, label)).model(t), point{-1000, 0, 0}, label, api.OK)
		checkGuess(t, plain{row(0, 0, 0, label): api.MaxRows}.model(t), point{1, 1, 1}, label, api.OK)
		checkGuess(t, plain{row(0, 0, 0, label): api.MaxRows}.model(t), point{0, 0, 0}, label, api.OK)
	}
}

// TestP5_5Great: the greatest worths, which differ by little.
func TestP5_5Great(t *testing.T) {
	for n := 240; n <= 260; n++ {
		content := plain{row(0, 0, 0, 1): n, row(1, 0, 0, 2): api.MaxRows - n}
		m := content.model(t)
		for _, x := range []point{{0, 0, 0}, {1, 0, 0}, {2, 0, 0}, {0, 1, 1}, {1, 1, 1}, {2, 2, 2}} {
			content.checkAt(t, m, x, 1)
		}
	}
	few := plain{row(0, 0, 0, 0): 1, row(1, 1, 1, 3): api.MaxRows - 1}
	for _, x := range []point{{0, 0, 0}, {1, 1, 1}, {0, 1, 1}, {5, 5, 5}, {0, 0, 5}} {
		few.checkAt(t, few.model(t), x, 1)
	}
}

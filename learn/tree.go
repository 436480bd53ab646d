package learn

import (
	"cmp"
	"slices"

	"amnesty/api"
)

// maxLevels is how many levels of branches a tree may have.
const maxLevels = 6

// none is the label of a branch, and a leaf's number of its parts.
const none = -1

// cut is a cut of rows by a column into those of at most a number, and the others.
type cut struct {
	column, number int
	measure        api.Frac
}

// Tree returns the decision tree of at most so many levels of branches, whose branches have at least so many rows.
func (m *Model) Tree(levels, least int) ([]api.Branch, api.Errno) {
	if levels < 0 || levels > maxLevels || least < 1 {
		return nil, api.ErrArg
	}
	all := m.memory().all()
	if len(all) == 0 {
		return nil, api.ErrNone
	}
	var tree []api.Branch
	// grow adds the node of a part, below so many levels of branches, with all that lies below it, and returns where the node stands.
	var grow func(part rows, above int) int
	grow = func(part rows, above int) int {
		at := len(tree)
		tree = append(tree, leaf(part))
		if above == levels || len(part) < least || part.count().oneLabel() {
			return at
		}
		best, there := bestCut(part)
		if !there {
			return at
		}
		lowPart, highPart := best.parts(part)
		low := grow(lowPart, above+1)
		high := grow(highPart, above+1)
		tree[at] = api.Branch{Column: best.column, Cut: best.number, Low: low, High: high, Label: none, Rows: len(part)}
		return at
	}
	grow(all, 0)
	return tree, api.OK
}

// leaf returns the leaf of a part.
func leaf(part rows) api.Branch {
	return api.Branch{Low: none, High: none, Label: part.count().most(), Rows: len(part)}
}

// bestCut returns the cut of the least measure, of equal ones that of the least column and then of the least number, and whether there is a cut.
func bestCut(part rows) (best cut, there bool) {
	for column := range api.Columns {
		for _, next := range cuts(part, column) {
			if !there || compareFracs(next.measure, best.measure) < 0 {
				best, there = next, true
			}
		}
	}
	return best, there
}

// cuts returns the cuts of a part, which has rows, by a column, in the order of their numbers.
func cuts(part rows, column int) []cut {
	part = slices.Clone(part)
	slices.SortFunc(part, func(a, b api.Row) int { return cmp.Compare(a.X[column], b.X[column]) })
	var list []cut
	var low tally
	high := part.count()
	for i, row := range part[1:] {
		last := part[i]
		low[last.Label]++
		high[last.Label]--
		if last.X[column] != row.X[column] {
			list = append(list, cut{column, last.X[column], plus(low.mixture(), high.mixture())})
		}
	}
	return list
}

// mixture returns what a part of a cut, which has rows, adds to its measure: their number, less the sum of the squares of the counts divided by it.
func (t tally) mixture() api.Frac {
	var n, squares int64
	for _, count := range t {
		n += int64(count)
		squares += int64(count) * int64(count)
	}
	return fraction(n*n-squares, n)
}

// parts returns the rows that go to either side.
func (c cut) parts(part rows) (low, high rows) {
	for _, row := range part {
		if row.X[c.column] <= c.number {
			low = append(low, row)
		} else {
			high = append(high, row)
		}
	}
	return low, high
}

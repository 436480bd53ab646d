package learn

import (
	"cmp"
	"slices"

	"amnesty/api"
)

// Vote returns the label for which most of the k nearest rows vote.
func (m *Model) Vote(x [api.Columns]int, k int) (int, api.Errno) {
	if !allowedNumbers(x) || k < 1 {
		return 0, api.ErrArg
	}
	voters := m.memory().all().nearest(x, k)
	counts := voters.count()
	most := counts[counts.most()]
	for _, row := range voters {
		if counts[row.Label] == most {
			return row.Label, api.OK
		}
	}
	return 0, api.ErrNone
}

// Guess returns the likeliest label by counts of equal columns.
func (m *Model) Guess(x [api.Columns]int) (int, api.Errno) {
	if !allowedNumbers(x) {
		return 0, api.ErrArg
	}
	all := m.memory().all()
	if len(all) == 0 {
		return 0, api.ErrNone
	}
	equal := all.equal(x)
	best, greatest := 0, fraction(0, 1)
	// A label without rows has the worth 0, and one with rows a greater one.
	for label, count := range all.count() {
		if next := worth(count, equal[label]); compareFracs(next, greatest) > 0 {
			best, greatest = label, next
		}
	}
	return best, api.OK
}

// nearest returns the k rows that are nearest to x (all, if there are fewer), the nearest first. Equal ones stay in their order.
func (r rows) nearest(x [api.Columns]int, k int) rows {
	list := slices.Clone(r)
	slices.SortStableFunc(list, func(a, b api.Row) int {
		return cmp.Compare(distance(a.X, x), distance(b.X, x))
	})
	return list[:min(k, len(list))]
}

// distance returns the square of the distance of two rows.
func distance(a, b [api.Columns]int) int {
	sum := 0
	for i := range a {
		sum += (a[i] - b[i]) * (a[i] - b[i])
	}
	return sum
}

// equal returns for each label and each column how many rows of the label have x's number there.
func (r rows) equal(x [api.Columns]int) (counts [api.Labels][api.Columns]int) {
	for _, row := range r {
		for column, number := range row.X {
			if number == x[column] {
				counts[row.Label][column]++
			}
		}
	}
	return counts
}

// worth returns the worth of a label with so many rows, of which so many are equal in each column.
func worth(count int, equal [api.Columns]int) api.Frac {
	num, den := int64(count), int64(1)
	for _, n := range equal {
		num *= int64(n + 1)
		den *= int64(count + 2)
	}
	return fraction(num, den)
}

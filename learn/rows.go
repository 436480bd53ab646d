package learn

import (
	"cmp"
	"slices"

	"amnesty/api"
)

// rows are rows, each as often as it is there.
type rows []api.Row

// tally is how many rows there are of each label.
type tally [api.Labels]int

// compareRows compares rows by their columns, the first one first, then by their labels.
func compareRows(a, b api.Row) int {
	return cmp.Or(slices.Compare(a.X[:], b.X[:]), cmp.Compare(a.Label, b.Label))
}

// count returns how many of the rows have each label.
func (r rows) count() tally {
	var counts tally
	for _, row := range r {
		counts[row.Label]++
	}
	return counts
}

// image returns the bytes of rows in their order, in which copies stand one behind another.
func (r rows) image() []byte {
	var different int
	var runs []byte
	for i := 0; i < len(r); {
		first, times := r[i], 0
		for ; i < len(r) && r[i] == first; i++ {
			times++
		}
		for _, number := range first.X {
			runs = appendBig(runs, number+api.MaxX)
		}
		runs = appendBig(append(runs, byte(first.Label)), times)
		different++
	}
	return append(appendBig(nil, different), runs...)
}

// appendBig appends a number as two bytes, the greater one first.
func appendBig(b []byte, number int) []byte {
	return append(b, byte(number>>8), byte(number))
}

// most returns the label of most rows, of equal ones the least.
func (t tally) most() int {
	return slices.Index(t[:], slices.Max(t[:]))
}

// oneLabel reports whether all rows have one label.
func (t tally) oneLabel() bool {
	var alone tally
	label := t.most()
	alone[label] = t[label]
	return t == alone
}

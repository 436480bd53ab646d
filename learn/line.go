package learn

import "amnesty/api"

// Line returns the line of least squares of a column by another one: slope and base.
func (m *Model) Line(by, of int) (slope, base api.Frac, err api.Errno) {
	if !isColumn(by) || !isColumn(of) {
		return api.Frac{}, api.Frac{}, api.ErrArg
	}
	var n, x, y, xx, xy int64
	for _, row := range m.memory().all() {
		rowX, rowY := int64(row.X[by]), int64(row.X[of])
		n, x, y, xx, xy = n+1, x+rowX, y+rowY, xx+rowX*rowX, xy+rowX*rowY
	}
	// This is the sum of the squares of the differences of all pairs of rows: 0 only if there are no different numbers.
	spread := n*xx - x*x
	if spread == 0 {
		return api.Frac{}, api.Frac{}, api.ErrNone
	}
	return fraction(n*xy-x*y, spread), fraction(y*xx-x*xy, spread), api.OK
}

package learn_test

import (
	"math"
	"testing"

	"amnesty/api"
	"amnesty/learn"
)

func TestP5_2Example(t *testing.T) {
	m := three().model(t)
	for range 2 {
		checkLine(t, m, 0, 1, frac(2, 1), frac(1, 1), api.OK)
		checkLine(t, m, 2, 1, api.Frac{}, api.Frac{}, api.ErrNone)
		checkLine(t, m, 0, 3, api.Frac{}, api.Frac{}, api.ErrArg)
		learnRow(t, m, row(7, 7, 7, 2))
		unlearnRow(t, m, row(7, 7, 7, 2))
		if e := m.Unlearn(row(7, 7, 7, 2)); e != api.ErrNone {
			t.Errorf("Unlearn of a row that was unlearned: %d", e)
		}
	}
}

func TestP5_2Refuses(t *testing.T) {
	m := three().model(t)
	for _, x := range []int{-1, 3, math.MinInt, math.MaxInt} {
		checkLine(t, m, x, 0, api.Frac{}, api.Frac{}, api.ErrArg)
		checkLine(t, m, 0, x, api.Frac{}, api.Frac{}, api.ErrArg)
		checkLine(t, m, x, x, api.Frac{}, api.Frac{}, api.ErrArg)
		// The column by has one number, which is named behind ErrArg.
		checkLine(t, m, 2, x, api.Frac{}, api.Frac{}, api.ErrArg)
	}
}

// TestP5_2SameColumn: a column by itself is the line of slope 1.
func TestP5_2SameColumn(t *testing.T) {
	m := plainOf(row(-5, 7, 3, 0), row(100, 7, -3, 1), row(41, 7, 1000, 1)).model(t)
	checkLine(t, m, 0, 0, frac(1, 1), frac(0, 1), api.OK)
	checkLine(t, m, 2, 2, frac(1, 1), frac(0, 1), api.OK)
	checkLine(t, m, 1, 1, api.Frac{}, api.Frac{}, api.ErrNone)
}

// TestP5_2OneNumber: two different numbers in the column by are needed, however many rows there are.
func TestP5_2OneNumber(t *testing.T) {
	m := learn.New()
	for i := range 10 {
		learnRow(t, m, row(-1000, i, i*i, 0))
		checkLine(t, m, 0, 1, api.Frac{}, api.Frac{}, api.ErrNone)
	}
	learnRow(t, m, row(-999, 0, 0, 0))
	if _, _, e := m.Line(0, 1); e != api.OK {
		t.Errorf("Line by a column with two numbers: %d", e)
	}
	unlearnRow(t, m, row(-999, 0, 0, 0))
	checkLine(t, m, 0, 1, api.Frac{}, api.Frac{}, api.ErrNone)
}

// TestP5_2Terms: lowest terms, a positive denominator, 0 as 0/1, and minus signs.
func TestP5_2Terms(t *testing.T) {
	for _, x := range []struct {
		content     plain
		slope, base api.Frac
	}{
		{plainOf(row(0, 0, 0, 0), row(2, 1, 0, 0)), frac(1, 2), frac(0, 1)},
		{plainOf(row(0, 0, 0, 0), row(2, -1, 0, 0)), frac(-1, 2), frac(0, 1)},
		{plainOf(row(0, 4, 0, 0), row(2, 4, 0, 0)), frac(0, 1), frac(4, 1)},
		{plainOf(row(0, -4, 0, 0), row(-2, -4, 0, 0)), frac(0, 1), frac(-4, 1)},
		{plainOf(row(1, 0, 0, 0), row(3, 1, 0, 0)), frac(1, 2), frac(-1, 2)},
		{plainOf(row(-4, 6, 0, 0), row(6, -6, 0, 0)), frac(-6, 5), frac(6, 5)},
		{plainOf(row(0, 0, 0, 0), row(0, 1, 0, 0), row(1, 3, 0, 0), row(2, 5, 0, 1)), frac(25, 11), frac(6, 11)},
		// A row that is there twice counts twice.
		{plain{row(0, 0, 0, 0): 1, row(1, 0, 0, 0): 1, row(1, 3, 0, 0): 2}, frac(2, 1), frac(0, 1)},
	} {
		checkLine(t, x.content.model(t), 0, 1, x.slope, x.base, api.OK)
		x.content.checkLines(t, x.content.model(t))
	}
}

// TestP5_2Great: the greatest sums that rows can have.
func TestP5_2Great(t *testing.T) {
	for _, content := range []plain{
		{row(1000, -1000, 1000, 0): 250, row(-1000, 1000, 999, 0): 250},
		{row(1000, 1000, -1000, 0): 499, row(999, -1000, -999, 0): 1},
		{row(-1000, 1000, 1000, 0): 499, row(-999, 999, 1000, 0): 1},
		{row(-1000, 1000, 1000, 0): 167, row(1000, 1000, -999, 0): 166, row(0, -1000, 1, 0): 167},
	} {
		content.checkLines(t, content.model(t))
	}
	checkLine(t, plain{row(1000, -1000, 0, 0): 250, row(-1000, 1000, 0, 0): 250}.model(t), 0, 1, frac(-1, 1), frac(0, 1), api.OK)
	checkLine(t, plain{row(1000, 1000, 0, 0): 499, row(999, -1000, 0, 0): 1}.model(t), 0, 1, frac(2000, 1), frac(-1999000, 1), api.OK)
}

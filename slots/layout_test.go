package slots_test

import (
	"math"
	"math/rand"
	"slices"
	"sort"
	"testing"

	"amnesty/slots"
)

func self(x int) int { return x }

func greater(a, b int) bool { return a > b }

func never(a, b int) bool { return false }

// plainLayout puts one item after another into the first free cell, as P1.2 says it.
func plainLayout(cells int, items, starts []int, before func(a, b int) bool) []int {
	order := make([]int, len(items))
	for i := range order {
		order[i] = i
	}
	sort.SliceStable(order, func(i, j int) bool { return before(items[order[i]], items[order[j]]) })
	layout := make([]int, cells)
	for c := range layout {
		layout[c] = -1
	}
	for _, i := range order {
		c := starts[i] % cells
		if c < 0 {
			c += cells
		}
		for layout[c] != -1 {
			c = (c + 1) % cells
		}
		layout[c] = i
	}
	return layout
}

func TestP1_2LayoutExamples(t *testing.T) {
	for _, x := range []struct {
		cells int
		items []int
		want  []int
	}{
		{8, []int{13, 5, 21, 6}, []int{1, -1, -1, -1, -1, 2, 0, 3}},
		{8, []int{5, 6, 13, 21}, []int{0, -1, -1, -1, -1, 3, 2, 1}},
		{8, []int{-3}, []int{-1, -1, -1, -1, -1, 0, -1, -1}},
		{2, nil, []int{-1, -1}},
		{2, []int{}, []int{-1, -1}},
		{1, []int{77}, []int{0}},
		{3, []int{2, 1, 0}, []int{2, 1, 0}},
		{3, []int{2, 5, 8}, []int{1, 0, 2}},
	} {
		if got := slots.Layout(x.cells, x.items, self, greater); !slices.Equal(got, x.want) {
			t.Errorf("Layout(%d, %v): %v, expected %v", x.cells, x.items, got, x.want)
		}
	}
}

func TestP1_2HomesBelowZeroAndFarAway(t *testing.T) {
	for _, x := range []struct{ cells, start, home int }{
		{8, -1, 7}, {8, -8, 0}, {8, -9, 7}, {8, 8, 0}, {8, 17, 1},
		{8, math.MinInt, 0}, {8, math.MaxInt, 7}, {7, -7, 0}, {7, -1, 6}, {7, math.MinInt + 1, 7 - math.MaxInt%7},
		{1, -5, 0}, {1 << 20, -1, 1<<20 - 1}, {1 << 20, 1 << 20, 0},
	} {
		got := slots.Layout(x.cells, []string{"one"}, func(string) int { return x.start }, func(a, b string) bool { return a < b })
		want := x.home % x.cells
		if len(got) != x.cells || got[want] != 0 {
			t.Errorf("start %d of %d cells: cell %d, expected %d", x.start, x.cells, slices.Index(got, 0), want)
		}
	}
}

func TestP1_2EqualItemsKeepTheirOrder(t *testing.T) {
	type item struct{ rank, number int }
	var items []item
	for i := range 40 {
		items = append(items, item{i % 3, i})
	}
	layout := slots.Layout(40, items, func(item) int { return 0 }, func(a, b item) bool { return a.rank > b.rank })
	for c := 1; c < 40; c++ {
		a, b := items[layout[c-1]], items[layout[c]]
		if a.rank < b.rank || a.rank == b.rank && a.number > b.number {
			t.Errorf("item %v lies ahead of item %v", a, b)
		}
	}
	if got := slots.Layout(4, []int{2, 1, 0}, func(int) int { return 3 }, never); !slices.Equal(got, []int{1, 2, -1, 0}) {
		t.Errorf("items of which none comes before another one: %v", got)
	}
}

func TestP1_2EmptyResults(t *testing.T) {
	untouched := func(int) int {
		t.Errorf("start was called")
		return 0
	}
	for _, x := range []struct {
		what   string
		cells  int
		items  []int
		start  func(int) int
		before func(a, b int) bool
	}{
		{"no cells", 0, nil, untouched, greater},
		{"cells below 0", -1, nil, untouched, greater},
		{"the least number of cells", math.MinInt, []int{1}, untouched, greater},
		{"too many cells", 1<<20 + 1, []int{1}, untouched, greater},
		{"the greatest number of cells", math.MaxInt, nil, untouched, greater},
		{"more items than cells", 8, make([]int, 9), untouched, greater},
		{"two items in one cell", 1, []int{1, 2}, untouched, greater},
		{"no start", 8, []int{1}, nil, greater},
		{"no before", 8, []int{1}, untouched, nil},
		{"no start and no items", 8, nil, nil, greater},
		{"no before and no items", 8, nil, untouched, nil},
	} {
		if got := slots.Layout(x.cells, x.items, x.start, x.before); len(got) != 0 {
			t.Errorf("%s: %d cells", x.what, len(got))
		}
	}
}

func TestP1_2MostCellsAreAllowed(t *testing.T) {
	got := slots.Layout(1<<20, nil, self, greater)
	if len(got) != 1<<20 || slices.Max(got) != -1 || slices.Min(got) != -1 {
		t.Errorf("2^20 free cells: %d cells", len(got))
	}
}

// TestP1_2ManyItemsOfOneHome would not end soon if each item walked past all those ahead of it.
func TestP1_2ManyItemsOfOneHome(t *testing.T) {
	const n = 1 << 20
	items := make([]int, n)
	for i := range items {
		items[i] = i
	}
	for c, i := range slots.Layout(n, items, func(int) int { return -3 }, never) {
		if (c+3)%n != i {
			t.Fatalf("item %d lies in cell %d", i, c)
		}
	}
}

func TestP1_2PlainLayouts(t *testing.T) {
	r := rand.New(rand.NewSource(12))
	for range 3000 {
		cells := 1 + r.Intn(40)
		items := make([]int, r.Intn(cells+1))
		starts := make([]int, len(items))
		home := map[int]int{}
		for i := range items {
			items[i] = r.Intn(60) // some are the same
			if _, ok := home[items[i]]; !ok {
				home[items[i]] = r.Intn(200) - 100
			}
			starts[i] = home[items[i]]
		}
		given := slices.Clone(items)
		start := func(x int) int { return home[x] }
		got, want := slots.Layout(cells, items, start, greater), plainLayout(cells, items, starts, greater)
		if !slices.Equal(got, want) {
			t.Fatalf("Layout(%d, %v) with starts %v: %v, expected %v", cells, items, starts, got, want)
		}
		if !slices.Equal(items, given) {
			t.Fatalf("Layout changed its items %v to %v", given, items)
		}
		got[0] = 99
		if again := slots.Layout(cells, items, start, greater); !slices.Equal(again, want) {
			t.Fatalf("Layout(%d, %v), again: %v, expected %v", cells, items, again, want)
		}
	}
}

func TestP1_2StartIsCalledOnceAheadOfBefore(t *testing.T) {
	calls := map[int]int{}
	compared := false
	slots.Layout(20, []int{4, 4, 9, 1, 7}, func(x int) int {
		if compared {
			t.Errorf("start is called behind before")
		}
		calls[x]++
		return x
	}, func(a, b int) bool {
		compared = true
		return a < b
	})
	if calls[4] != 2 || calls[9] != 1 || calls[1] != 1 || calls[7] != 1 || !compared {
		t.Errorf("calls of start: %v", calls)
	}
}

func TestP1_2OrdersThatAreNone(t *testing.T) {
	r := rand.New(rand.NewSource(5))
	for name, before := range map[string]func(a, b int) bool{
		"always": func(a, b int) bool { return true },
		"never":  never,
		"coins":  func(a, b int) bool { return r.Intn(2) == 0 },
		"around": func(a, b int) bool { return (a-b+100)%3 == 1 },
	} {
		items := make([]int, 100)
		for i := range items {
			items[i] = i
		}
		layout := slots.Layout(128, items, func(x int) int { return x * x }, before)
		seen := map[int]int{}
		for _, i := range layout {
			seen[i]++
		}
		if len(layout) != 128 || seen[-1] != 28 || len(seen) != 101 {
			t.Errorf("%s: %d cells, %d of them free, %d items", name, len(layout), seen[-1], len(seen)-1)
		}
	}
}

func TestP1_2Panics(t *testing.T) {
	thrown := func(f func()) (value any) {
		defer func() { value = recover() }()
		f()
		return nil
	}
	items := []int{3, 1, 2}
	startThrows := func(x int) int {
		if x == 2 {
			panic("two")
		}
		return x
	}
	if v := thrown(func() { slots.Layout(8, items, startThrows, greater) }); v != "two" {
		t.Errorf("start panics, and Layout with %v", v)
	}
	type sign struct{ n int }
	if v := thrown(func() { slots.Layout(8, items, self, func(a, b int) bool { panic(sign{7}) }) }); v != (sign{7}) {
		t.Errorf("before panics, and Layout with %v", v)
	}
	if !slices.Equal(items, []int{3, 1, 2}) {
		t.Errorf("a layout that panicked left the items %v", items)
	}
	if got := slots.Layout(4, items, self, greater); !slices.Equal(got, []int{-1, 1, 2, 0}) {
		t.Errorf("a layout behind one that panicked: %v", got)
	}
}

package slots

import "slices"

// maxCells is the greatest number of cells of a layout.
const maxCells = 1 << 20

// Layout returns, for each cell, the number of the item that lies there, or -1: the items in the order of before, each in the first free cell from its start on.
func Layout[T any](cells int, items []T, start func(item T) int, before func(a, b T) bool) []int {
	if cells < 1 || cells > maxCells || len(items) > cells || start == nil || before == nil {
		return nil
	}
	homes := make([]int, len(items))
	for i, item := range items {
		homes[i] = (start(item)%cells + cells) % cells
	}
	layout := slices.Repeat([]int{-1}, cells)
	onward := numbers(cells)
	for _, i := range sequence(items, before) {
		cell := firstFree(onward, homes[i])
		layout[cell] = i
		onward[cell] = (cell + 1) % cells
	}
	return layout
}

// numbers returns the numbers from 0 to n - 1.
func numbers(n int) []int {
	list := make([]int, n)
	for i := range list {
		list[i] = i
	}
	return list
}

// sequence returns the indexes of the items in the order of before.
func sequence[T any](items []T, before func(a, b T) bool) []int {
	order := numbers(len(items))
	slices.SortStableFunc(order, func(i, j int) int {
		switch {
		case before(items[i], items[j]):
			return -1
		case before(items[j], items[i]):
			return 1
		}
		return 0
	})
	return order
}

// firstFree returns the first free cell from a cell on. Onward has for a free cell itself, and for a taken one a cell further on, with no free one in between: these ways are shortened as they are walked, or many items with one home would take a time that grows with the square of their number.
func firstFree(onward []int, cell int) int {
	for onward[cell] != cell {
		onward[cell] = onward[onward[cell]]
		cell = onward[cell]
	}
	return cell
}

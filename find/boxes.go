package find

import (
	"bytes"
	"cmp"
	"slices"

	"amnesty/api"
	"amnesty/order"
)

const (
	coordBits  = 16 // bits of a coordinate
	cornerSize = 4  // bytes of the lower corner of a box
)

// Boxes is an index of rectangles.
type Boxes struct {
	// The pairs of P4.8 are all that there is, as in Words.
	pairs *order.Map
}

// placed is a box with its number.
type placed struct {
	id  uint64
	box api.Box
}

// NewBoxes returns an empty index.
func NewBoxes(seed uint64) *Boxes {
	return &Boxes{order.New(seed)}
}

// Add adds a rectangle under a number.
func (b *Boxes) Add(id uint64, box api.Box) api.Errno {
	pairs := b.content()
	switch {
	case pairs == nil || !allowed(box):
		return api.ErrArg
	case boxKey(pairs, id) != nil:
		return api.ErrTwice
	case pairs.Len() >= api.MaxItems:
		return api.ErrFull
	}
	pairs.Put(keyAndValue(placed{id, box}))
	return api.OK
}

// Drop takes a rectangle out.
func (b *Boxes) Drop(id uint64) api.Errno {
	pairs := b.content()
	if pairs == nil {
		return api.ErrArg
	}
	key := boxKey(pairs, id)
	if key == nil {
		return api.ErrNone
	}
	return pairs.Drop(key)
}

// Len returns the number of rectangles.
func (b *Boxes) Len() int {
	return b.content().Len()
}

// Touch returns the numbers of the rectangles that share a point with a box, in rising order.
func (b *Boxes) Touch(box api.Box) ([]uint64, api.Errno) {
	if !allowed(box) {
		return nil, api.ErrArg
	}
	var numbers []uint64
	for _, p := range b.list() {
		if touch(p.box, box) {
			numbers = append(numbers, p.id)
		}
	}
	return rising(numbers), api.OK
}

// Near returns the numbers of the k rectangles that are nearest to a point, the nearest first.
func (b *Boxes) Near(x, y, k int) ([]uint64, api.Errno) {
	if !allowed(api.Box{X0: x, Y0: y, X1: x, Y1: y}) || k < 0 {
		return nil, api.ErrArg
	}
	list := b.list()
	slices.SortFunc(list, func(p, q placed) int {
		return cmp.Or(cmp.Compare(distance(p.box, x, y), distance(q.box, x, y)), cmp.Compare(p.id, q.id))
	})
	var numbers []uint64
	for _, p := range list[:min(k, len(list))] {
		numbers = append(numbers, p.id)
	}
	return numbers, api.OK
}

// Image returns the bytes of the index.
func (b *Boxes) Image() []byte {
	return b.content().Image()
}

// content returns the pairs of the index; there are none in an index that is nil, or the zero value.
func (b *Boxes) content() *order.Map {
	if b == nil {
		return nil
	}
	return b.pairs
}

// list returns the boxes with their numbers, in the order of their keys.
func (b *Boxes) list() []placed {
	var list []placed
	for key, value := range b.content().All() {
		list = append(list, placedOf(key, value))
	}
	return list
}

// boxKey returns the key of the box that has a number, nil if there is none.
func boxKey(pairs *order.Map, id uint64) []byte {
	end := appendBig(nil, id, numberSize)
	for key := range pairs.All() {
		if bytes.HasSuffix(key, end) {
			return key
		}
	}
	return nil
}

// keyAndValue returns the pair of a box.
func keyAndValue(p placed) (key, value []byte) {
	key = appendBig(nil, weave(p.box.X0, p.box.Y0), cornerSize)
	key = appendBig(key, p.id, numberSize)
	value = appendBig(nil, uint64(p.box.X1), placeSize)
	value = appendBig(value, uint64(p.box.Y1), placeSize)
	return key, value
}

// placedOf returns the box of a pair.
func placedOf(key, value []byte) placed {
	x0, y0 := unweave(big(key[:cornerSize]))
	x1, y1 := int(big(value[:placeSize])), int(big(value[placeSize:]))
	return placed{numberOf(key), api.Box{X0: x0, Y0: y0, X1: x1, Y1: y1}}
}

// weave returns the number that has the bits of two coordinates by turns, x first.
func weave(x, y int) uint64 {
	var woven uint64
	for i := range coordBits {
		woven |= uint64(x>>i&1)<<(2*i) | uint64(y>>i&1)<<(2*i+1)
	}
	return woven
}

// unweave returns the coordinates of which a number has the bits.
func unweave(woven uint64) (x, y int) {
	for i := range coordBits {
		x |= int(woven>>(2*i)&1) << i
		y |= int(woven>>(2*i+1)&1) << i
	}
	return x, y
}

// allowed reports whether a box is allowed.
func allowed(box api.Box) bool {
	return allowedSide(box.X0, box.X1) && allowedSide(box.Y0, box.Y1)
}

// allowedSide reports whether a box may reach from one coordinate to another one.
func allowedSide(low, high int) bool {
	return 0 <= low && low <= high && high <= api.MaxCoord
}

// touch reports whether two boxes share a point.
func touch(a, b api.Box) bool {
	return a.X0 <= b.X1 && b.X0 <= a.X1 && a.Y0 <= b.Y1 && b.Y0 <= a.Y1
}

// distance returns the square of the distance of a box from a point.
func distance(box api.Box, x, y int) int64 {
	right, up := gap(box.X0, box.X1, x), gap(box.Y0, box.Y1, y)
	return right*right + up*up
}

// gap returns how far a coordinate lies outside of those from one to another one. (The squares of gaps may have more than 32 bits.)
func gap(low, high, at int) int64 {
	return int64(max(low-at, 0, at-high))
}

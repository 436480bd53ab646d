package find_test

import (
	"bytes"
	"math"
	"math/rand"
	"slices"
	"testing"

	"amnesty/api"
	"amnesty/find"
	"amnesty/order"
)

const far = api.MaxCoord

// notAllowed has boxes that are beyond the bounds, or turned about.
var notAllowed = []api.Box{
	box(-1, 0, 0, 0), box(0, -1, 0, 0), box(0, 0, -1, 0), box(0, 0, 0, -1), box(-2, -2, -1, -1), box(-1, 0, 5, 5), box(0, -1, 5, 5),
	box(0, 0, far+1, 0), box(0, 0, 0, far+1), box(far+1, 0, far+1, 0), box(0, far+1, 0, far+1), box(5, 5, far+1, 6), box(5, 5, 6, far+1),
	box(2, 0, 1, 0), box(0, 2, 0, 1), box(2, 2, 1, 1), box(far, 0, 0, 0), box(0, far, 0, 0), box(10, 0, 5, 9), box(0, 10, 9, 5),
	box(math.MinInt, 0, 0, 0), box(0, math.MinInt, 0, 0), box(math.MinInt, math.MinInt, math.MaxInt, math.MaxInt),
	box(0, 0, math.MaxInt, 0), box(0, 0, 0, math.MaxInt), box(math.MaxInt, math.MaxInt, math.MinInt, math.MinInt), box(math.MaxInt, 0, math.MaxInt, 0),
	box(1<<32, 0, 1<<32, 0), box(0, 1<<16, 0, 1<<16),
}

func TestP4_6AddRefuses(t *testing.T) {
	content := boxes{1: box(0, 0, 10, 10), 2: box(3, 3, 3, 3)}
	b := content.index(t, 5)
	for _, x := range notAllowed {
		for _, id := range []uint64{1, 3} {
			if e := b.Add(id, x); e != api.ErrArg {
				t.Errorf("Add(%d, %v): %d, expected ErrArg", id, x, e)
			}
		}
	}
	for _, x := range []api.Box{box(0, 0, 10, 10), box(3, 3, 3, 3), box(far, far, far, far)} {
		for id := range content {
			if e := b.Add(id, x); e != api.ErrTwice {
				t.Errorf("Add(%d, %v), again: %d, expected ErrTwice", id, x, e)
			}
		}
	}
	content.check(t, 5, b)
}

func TestP4_6AddAtTheBounds(t *testing.T) {
	b, content := find.NewBoxes(2), boxes{}
	ends := [][2]int{{0, 0}, {0, far}, {far, far}, {1, 2}, {0, 1}, {far - 1, far}}
	for _, x := range ends {
		for _, y := range ends {
			id := uint64(len(content)) << 40
			content[id] = box(x[0], y[0], x[1], y[1])
			addBox(t, b, id, content[id])
			content.check(t, 2, b)
		}
	}
}

// TestP4_6EqualBoxes: several numbers may have one box.
func TestP4_6EqualBoxes(t *testing.T) {
	content := boxes{0: box(1, 2, 3, 4), 1: box(1, 2, 3, 4), 256: box(1, 2, 3, 4), math.MaxUint64: box(1, 2, 3, 4), 9: box(1, 2, 3, 5)}
	b := content.index(t, 7)
	content.check(t, 7, b)
	checkTouch(t, b, box(0, 0, 9, 9), 0, 1, 9, 256, math.MaxUint64)
	checkNear(t, b, 9, 9, 9, 9, 0, 1, 256, math.MaxUint64)
	dropBox(t, b, 256)
	delete(content, 256)
	content.check(t, 7, b)
	checkTouch(t, b, box(0, 0, 9, 9), 0, 1, 9, math.MaxUint64)
}

func TestP4_6Drop(t *testing.T) {
	content := boxes{1: box(0, 0, 10, 10), 2: box(20, 0, 30, 5), 3: box(10, 10, 12, 12), 1 << 32: box(0, 0, 0, 0)}
	b := content.index(t, 3)
	for _, id := range []uint64{0, 4, 1<<8 + 1, 1<<32 + 1, 1<<33 + 1, 1<<56 + 1, math.MaxUint64} {
		if e := b.Drop(id); e != api.ErrNone {
			t.Errorf("Drop(%d), which is not there: %d", id, e)
		}
		content.check(t, 3, b)
	}
	for _, id := range []uint64{2, 1 << 32, 1, 3} {
		dropBox(t, b, id)
		delete(content, id)
		content.check(t, 3, b)
		if e := b.Drop(id); e != api.ErrNone {
			t.Errorf("Drop(%d), again: %d", id, e)
		}
	}
	addBox(t, b, 2, box(5, 5, 5, 5))
	boxes{2: box(5, 5, 5, 5)}.check(t, 3, b)
}

func TestP4_6Full(t *testing.T) {
	b, content := find.NewBoxes(8), boxes{}
	for id := range uint64(api.MaxItems) {
		i := int(id)
		content[id] = box(i%20, i/20, i%20+i%3, i/20+i%5)
		addBox(t, b, id, content[id])
	}
	content.check(t, 8, b)
	for _, x := range []struct {
		id   uint64
		box  api.Box
		want api.Errno
	}{{300, box(0, 0, 1, 1), api.ErrFull}, {7, box(0, 0, 1, 1), api.ErrTwice}, {300, box(2, 0, 1, 1), api.ErrArg}, {7, box(2, 0, 1, 1), api.ErrArg}} {
		if e := b.Add(x.id, x.box); e != x.want {
			t.Errorf("Add(%d, %v) to a full index: %d, expected %d", x.id, x.box, e, x.want)
		}
	}
	content.check(t, 8, b)
	checkNear(t, b, 3, 3, 17, content.near(3, 3, 17)...)
	checkNear(t, b, 19, 0, api.MaxItems, content.near(19, 0, api.MaxItems)...)
	checkTouch(t, b, box(5, 5, 7, 9), content.touch(box(5, 5, 7, 9))...)
	checkTouch(t, b, box(0, 0, far, far), numbered(0, api.MaxItems)...)
	dropBox(t, b, 0)
	addBox(t, b, 300, box(far, far, far, far))
	delete(content, 0)
	content[300] = box(far, far, far, far)
	content.check(t, 8, b)
}

func TestP4_7Example(t *testing.T) {
	b := boxes{1: box(0, 0, 10, 10), 2: box(20, 0, 30, 5), 3: box(10, 10, 12, 12)}.index(t, 4)
	checkTouch(t, b, box(10, 10, 20, 20), 1, 3)
	checkTouch(t, b, box(5, 1, 25, 1), 1, 2)
	checkNear(t, b, 15, 0, 3, 1, 2, 3)
	checkNear(t, b, 15, 0, 2, 1, 2)
	checkNear(t, b, 15, 0, 1, 1)
	checkNear(t, b, 15, 0, 0)
}

// TestP4_7TouchAtEdges: one point that is shared is enough, one step less is not.
func TestP4_7TouchAtEdges(t *testing.T) {
	b := boxes{6: box(10, 20, 30, 40)}.index(t, 4)
	for _, x := range []api.Box{
		box(10, 20, 30, 40), box(15, 25, 16, 26), box(0, 0, far, far), box(15, 0, 16, far), box(0, 30, far, 31),
		box(0, 0, 10, 20), box(30, 40, far, far), box(0, 40, 10, far), box(30, 0, far, 20),
		box(0, 30, 10, 30), box(30, 30, 50, 30), box(20, 0, 20, 20), box(20, 40, 20, 50), box(10, 20, 10, 20), box(30, 40, 30, 40), box(20, 30, 20, 30),
	} {
		checkTouch(t, b, x, 6)
	}
	for _, x := range []api.Box{
		box(0, 0, 9, 20), box(0, 0, 10, 19), box(31, 40, far, far), box(30, 41, far, far), box(0, 40, 9, far), box(30, 0, far, 19),
		box(0, 0, 9, far), box(31, 0, far, far), box(0, 0, far, 19), box(0, 41, far, far), box(9, 30, 9, 30), box(31, 30, 31, 30), box(0, 0, 0, 0), box(far, far, far, far),
	} {
		checkTouch(t, b, x)
	}
}

func TestP4_7TouchAtTheBounds(t *testing.T) {
	b := boxes{1: box(0, 0, 0, 0), 2: box(far, far, far, far), 3: box(0, far, 0, far), 4: box(far, 0, far, 0), 5: box(0, 0, far, far)}.index(t, 4)
	checkTouch(t, b, box(0, 0, 0, 0), 1, 5)
	checkTouch(t, b, box(far, far, far, far), 2, 5)
	checkTouch(t, b, box(0, 0, far, 0), 1, 4, 5)
	checkTouch(t, b, box(0, 0, 0, far), 1, 3, 5)
	checkTouch(t, b, box(1, 1, far, far), 2, 5)
	checkTouch(t, b, box(0, 0, far, far), 1, 2, 3, 4, 5)
}

func TestP4_7TouchRefuses(t *testing.T) {
	b := boxes{1: box(0, 0, far, far)}.index(t, 4)
	for _, x := range notAllowed {
		if l, e := b.Touch(x); e != api.ErrArg || len(l) != 0 {
			t.Errorf("Touch(%v): %v, %d, expected ErrArg", x, l, e)
		}
	}
}

func TestP4_7NearRefuses(t *testing.T) {
	b := boxes{1: box(0, 0, far, far)}.index(t, 4)
	for _, x := range [][3]int{{-1, 0, 1}, {0, -1, 1}, {far + 1, 0, 1}, {0, far + 1, 1}, {0, 0, -1}, {0, 0, math.MinInt}, {math.MinInt, 0, 1}, {0, math.MaxInt, 1}, {math.MaxInt, math.MaxInt, math.MaxInt}, {-1, -1, -1}, {-1, 0, 0}, {1 << 32, 0, 1}} {
		if l, e := b.Near(x[0], x[1], x[2]); e != api.ErrArg || len(l) != 0 {
			t.Errorf("Near%v: %v, %d, expected ErrArg", x, l, e)
		}
	}
	for _, x := range [][2]int{{0, 0}, {far, 0}, {0, far}, {far, far}} {
		checkNear(t, b, x[0], x[1], 1, 1)
		checkNear(t, b, x[0], x[1], 0)
	}
}

// TestP4_7NearAround: distances on all sides and at all corners of a box.
func TestP4_7NearAround(t *testing.T) {
	// The point is 100, 100; each number is the square of the distance.
	content := boxes{
		0:  box(100, 100, 100, 100),
		1:  box(101, 90, 110, 110),
		4:  box(90, 90, 98, 100),
		9:  box(90, 103, 110, 110),
		16: box(0, 0, far, 96),
		18: box(103, 103, 105, 105),
		20: box(0, 104, 98, 200),
		25: box(103, 0, far, 96),
		41: box(5, 6, 95, 96),
	}
	b := content.index(t, 4)
	checkNear(t, b, 100, 100, 9, sorted(content)...)
	checkNear(t, b, 100, 100, 5, 0, 1, 4, 9, 16)
	inside := boxes{7: box(90, 90, 110, 110), 3: box(100, 100, 200, 200), 5: box(0, 0, far, far), 9: box(0, 0, 100, 100), 8: box(100, 0, 100, far)}.index(t, 4)
	checkNear(t, inside, 100, 100, 5, 3, 5, 7, 8, 9)
}

// TestP4_7NearTies: equal distances stand in the order of numbers, not of places.
func TestP4_7NearTies(t *testing.T) {
	content := boxes{5: box(3, 4, 3, 4), 4: box(4, 3, 4, 3), 3: box(0, 5, 0, 5), 2: box(5, 0, 5, 0), 1 << 63: box(0, 0, 0, 0), 1: box(5, 0, 9, 0), 6: box(0, 5, 0, 9), 7: box(6, 0, 6, 0)}
	b := content.index(t, 4)
	checkNear(t, b, 0, 0, 100, 1<<63, 1, 2, 3, 4, 5, 6, 7)
	checkNear(t, b, 0, 0, 4, 1<<63, 1, 2, 3)
	checkNear(t, b, 0, 0, math.MaxInt, 1<<63, 1, 2, 3, 4, 5, 6, 7)
}

// TestP4_7NearFarAway: squares that have more than 32 bits.
func TestP4_7NearFarAway(t *testing.T) {
	b := boxes{1: box(far, far, far, far), 2: box(far, far-1, far, far-1), 3: box(far, 0, far, 0), 4: box(0, far, 0, far), 5: box(46341, 46341, 46341, 46341), 6: box(1, 0, 1, 0)}.index(t, 4)
	checkNear(t, b, 0, 0, 6, 6, 3, 4, 5, 2, 1)
	checkNear(t, b, far, far, 6, 1, 2, 5, 3, 4, 6)
	checkNear(t, b, far, 0, 6, 3, 5, 2, 6, 1, 4)
}

// TestT2Boxes: many boxes, asked point for point.
func TestT2Boxes(t *testing.T) {
	for seed := range uint64(40) {
		r := rand.New(rand.NewSource(int64(seed)))
		size := 2 + r.Intn(18)
		some := func() api.Box {
			x, y := r.Intn(size), r.Intn(size)
			return box(x, y, x+r.Intn(size-x), y+r.Intn(size-y))
		}
		content := boxes{}
		for range r.Intn(25) {
			content[uint64(r.Intn(40))] = some()
		}
		b := content.index(t, seed)
		for range 40 {
			with, x, y, k := some(), r.Intn(size+3), r.Intn(size+3), r.Intn(30)
			checkTouch(t, b, with, content.touch(with)...)
			checkNear(t, b, x, y, k, content.near(x, y, k)...)
		}
		content.check(t, seed, b)
	}
}

// TestP4_8Image: the bytes of images that are written out.
func TestP4_8Image(t *testing.T) {
	for _, x := range []struct {
		id   uint64
		box  api.Box
		want string
	}{
		{5, box(3, 2, 9, 9), "\x00\x00\x00\x0D\x00\x00\x00\x00\x00\x00\x00\x05\x00\x09\x00\x09"},
		{0x0102030405060708, box(0, 0, 0, 0), "\x00\x00\x00\x00\x01\x02\x03\x04\x05\x06\x07\x08\x00\x00\x00\x00"},
		{1, box(far, 0, far, 0), "\x55\x55\x55\x55\x00\x00\x00\x00\x00\x00\x00\x01\xFF\xFF\x00\x00"},
		{1, box(0, far, 0, far), "\xAA\xAA\xAA\xAA\x00\x00\x00\x00\x00\x00\x00\x01\x00\x00\xFF\xFF"},
		{math.MaxUint64, box(far, far, far, far), "\xFF\xFF\xFF\xFF\xFF\xFF\xFF\xFF\xFF\xFF\xFF\xFF\xFF\xFF\xFF\xFF"},
		{2, box(1, 256, 0x1234, 0xABCD), "\x00\x02\x00\x01\x00\x00\x00\x00\x00\x00\x00\x02\x12\x34\xAB\xCD"},
		{2, box(0x8000, 0x4000, 0x8001, 0x4000), "\x60\x00\x00\x00\x00\x00\x00\x00\x00\x00\x00\x02\x80\x01\x40\x00"},
	} {
		b := find.NewBoxes(9)
		if got := b.Image(); string(got) != "\x00\x00\x00\x00" {
			t.Errorf("the image of no boxes: %q", got)
		}
		addBox(t, b, x.id, x.box)
		if got := b.Image(); string(got) != "\x01\x00\x00\x00"+"\x00\x0C\x04\x00"+x.want {
			t.Errorf("the image of %v under %d: %q", x.box, x.id, got)
		}
		checkTouch(t, b, x.box, x.id)
	}
}

// TestP4_8EachBit: each bit of both coordinates has its place, and is read from it again.
func TestP4_8EachBit(t *testing.T) {
	for i := range 16 {
		for j := range 17 {
			x, y := 1<<i, 1<<j&far
			b := boxes{9: box(x, y, x, y)}.index(t, 1)
			boxes{9: box(x, y, x, y)}.check(t, 1, b)
			checkTouch(t, b, box(x, y, x, y), 9)
			checkTouch(t, b, box(0, 0, x-1, far))
			checkTouch(t, b, box(min(x+1, far), 0, far, far))
			if y > 0 {
				checkTouch(t, b, box(0, 0, far, y-1))
			}
			checkTouch(t, b, box(0, y+1, far, far))
		}
	}
}

// TestT1BoxesOneShape lets indexes grow and shrink, and holds them against their content after each call.
func TestT1BoxesOneShape(t *testing.T) {
	for seed := range uint64(30) {
		r := rand.New(rand.NewSource(int64(seed)))
		most := []int{1, 3, 8, 40}[seed%4]
		b, content := find.NewBoxes(seed), boxes{}
		for range 60 {
			id := uint64(r.Intn(2 * most))
			x, y := r.Intn(far+1), r.Intn(far+1)
			next := box(x, y, x+r.Intn(far+1-x), y+r.Intn(far+1-y))
			if _, there := content[id]; there && r.Intn(3) > 0 {
				dropBox(t, b, id)
				delete(content, id)
			} else if there {
				if e := b.Add(id, next); e != api.ErrTwice {
					t.Fatalf("Add of a number that is there: %d", e)
				}
			} else {
				content[id] = next
				addBox(t, b, id, next)
			}
			content.check(t, seed, b)
		}
	}
}

// TestT4BoxesForget: a box that was dropped leaves nothing, in whatever order boxes came.
func TestT4BoxesForget(t *testing.T) {
	content := boxes{1: box(0, 0, 10, 10), 2: box(20, 0, 30, 5), 3: box(10, 10, 12, 12)}
	gone := boxes{4: box(0, 0, 10, 10), 5: box(5, 5, 6, 6), 6: box(0, 0, far, far)}
	never := content.index(t, 4)
	b := gone.index(t, 4)
	for _, id := range []uint64{3, 1, 2} {
		addBox(t, b, id, content[id])
	}
	for id := range gone {
		dropBox(t, b, id)
	}
	if !bytes.Equal(b.Image(), never.Image()) {
		t.Errorf("an index that forgot has another image than one that was never told")
	}
	content.check(t, 4, b)
	checkTouch(t, b, box(0, 0, far, far), 1, 2, 3)
	checkNear(t, b, 0, 0, 9, 1, 3, 2)
}

// TestP7BoxesImage: an image is that of a map of the seed of the index.
func TestP7BoxesImage(t *testing.T) {
	content := boxes{1: box(0, 0, 10, 10), 2: box(20, 0, 30, 5), 3: box(10, 10, 12, 12)}
	for _, seed := range []uint64{0, 1, math.MaxUint64} {
		image := content.index(t, seed).Image()
		m, e := order.Load(seed, image)
		if e != api.OK || !bytes.Equal(m.Image(), image) || m.Len() != 3 {
			t.Errorf("the image with the seed %d is no map's: %d", seed, e)
		}
	}
}

func TestP1NilAndZeroBoxes(t *testing.T) {
	for name, b := range map[string]*find.Boxes{"nil": nil, "zero": {}} {
		for _, x := range slices.Concat(notAllowed, []api.Box{{}, box(0, 0, far, far)}) {
			if e := b.Add(1, x); e != api.ErrArg {
				t.Errorf("%s: Add: %d, expected ErrArg", name, e)
			}
		}
		if e := b.Drop(1); e != api.ErrArg {
			t.Errorf("%s: Drop: %d, expected ErrArg", name, e)
		}
		if b.Len() != 0 || len(b.Image()) != 0 {
			t.Errorf("%s: %d boxes, the image %v", name, b.Len(), b.Image())
		}
		checkTouch(t, b, box(0, 0, far, far))
		checkNear(t, b, 0, 0, 5)
		for _, x := range notAllowed {
			if l, e := b.Touch(x); e != api.ErrArg || len(l) != 0 {
				t.Errorf("%s: Touch(%v): %v, %d, expected ErrArg", name, x, l, e)
			}
		}
		for _, x := range [][3]int{{-1, 0, 1}, {0, far + 1, 1}, {0, 0, -1}} {
			if l, e := b.Near(x[0], x[1], x[2]); e != api.ErrArg || len(l) != 0 {
				t.Errorf("%s: Near%v: %v, %d, expected ErrArg", name, x, l, e)
			}
		}
	}
}

// TestP4_7EmptyIndex: an index without boxes has the same errors.
func TestP4_7EmptyIndex(t *testing.T) {
	b := find.NewBoxes(3)
	checkTouch(t, b, box(0, 0, far, far))
	checkNear(t, b, 0, 0, 5)
	if _, e := b.Near(0, 0, -1); e != api.ErrArg {
		t.Errorf("Near of -1 in an empty index: %d", e)
	}
	if _, e := b.Touch(box(1, 0, 0, 0)); e != api.ErrArg {
		t.Errorf("Touch of a box that is turned about in an empty index: %d", e)
	}
}

// TestP1CopiedBoxes: Boxes that a caller copied are the same index still.
func TestP1CopiedBoxes(t *testing.T) {
	b := find.NewBoxes(1)
	addBox(t, b, 1, box(0, 0, 1, 1))
	copied := *b
	addBox(t, &copied, 2, box(2, 2, 3, 3))
	dropBox(t, b, 1)
	boxes{2: box(2, 2, 3, 3)}.check(t, 1, b)
	boxes{2: box(2, 2, 3, 3)}.check(t, 1, &copied)
}

// TestP3BoxesMemory: results may be written over, and questions change nothing.
func TestP3BoxesMemory(t *testing.T) {
	content := boxes{1: box(0, 0, 10, 10), 2: box(20, 0, 30, 5), 3: box(10, 10, 12, 12)}
	b := content.index(t, 6)
	for range 2 {
		touched, _ := b.Touch(box(0, 0, far, far))
		nearest, _ := b.Near(0, 0, 2)
		image := b.Image()
		clear(touched)
		clear(nearest)
		clear(image)
		_ = append(nearest, 77)
		checkTouch(t, b, box(0, 0, far, far), 1, 2, 3)
		checkNear(t, b, 0, 0, 3, 1, 3, 2)
		content.check(t, 6, b)
	}
}

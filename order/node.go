package order

import (
	"bytes"

	"amnesty/api"
	"amnesty/slots"
)

// The tags of the coins that a map uses.
const (
	tagHeight = 3
	tagDigest = 4
)

// Items and nodes never change once they are made; a map that changes gets new nodes on the way from its root to the change. So spans and iterations can go on with the nodes they began with, and maps can share nodes.

// item is a pair with its height.
type item struct {
	key, value []byte
	height     uint64
}

// node is an item over the nodes to its left and to its right.
type node struct {
	*item
	digest      uint64
	size        int
	left, right *node
}

// newItem returns the item of a pair.
func newItem(seed uint64, key, value []byte) *item {
	return &item{bytes.Clone(key), bytes.Clone(value), slots.Coin(seed, tagHeight, key)}
}

// above reports whether an item has to stand above another one, if one of them is below the other one.
func (i *item) above(other *item) bool {
	return i.height > other.height || i.height == other.height && bytes.Compare(i.key, other.key) < 0
}

// newNode returns the node of an item over its children.
func newNode(seed uint64, i *item, left, right *node) *node {
	side := api.Side{Key: i.key, Value: i.value, Left: digestOf(left), Right: digestOf(right)}
	return &node{i, sideDigest(seed, side), sizeOf(left) + 1 + sizeOf(right), left, right}
}

// over returns the node of the same item over other children.
func (n *node) over(seed uint64, left, right *node) *node {
	if left == n.left && right == n.right {
		return n
	}
	return newNode(seed, n.item, left, right)
}

// sideDigest returns the digest of a node, of which a step of a proof tells all that it takes.
func sideDigest(seed uint64, s api.Side) uint64 {
	told := make([]byte, 0, 8+1+len(s.Key)+2+len(s.Value)+8)
	told = appendLittle(told, s.Left, 8)
	told = append(told, byte(len(s.Key)))
	told = append(told, s.Key...)
	told = appendLittle(told, uint64(len(s.Value)), 2)
	told = append(told, s.Value...)
	told = appendLittle(told, s.Right, 8)
	return slots.Coin(seed, tagDigest, told)
}

// appendLittle appends a number as so many bytes, the least one first.
func appendLittle(b []byte, number uint64, size int) []byte {
	for range size {
		b = append(b, byte(number))
		number >>= 8
	}
	return b
}

// sizeOf returns how many nodes there are in a node and below it.
func sizeOf(n *node) int {
	if n == nil {
		return 0
	}
	return n.size
}

// digestOf returns the digest of a node.
func digestOf(n *node) uint64 {
	if n == nil {
		return 0
	}
	return n.digest
}

// toward returns the child to which a key leads.
func (n *node) toward(key []byte) *node {
	if bytes.Compare(key, n.key) < 0 {
		return n.left
	}
	return n.right
}

// find returns the node of a key.
func (n *node) find(key []byte) *node {
	for n != nil && !bytes.Equal(key, n.key) {
		n = n.toward(key)
	}
	return n
}

// first returns the node of the least key.
func (n *node) first() *node {
	for n.left != nil {
		n = n.left
	}
	return n
}

// last returns the node of the greatest key.
func (n *node) last() *node {
	for n.right != nil {
		n = n.right
	}
	return n
}

// rank returns how many keys are less than a key.
func (n *node) rank(key []byte) int {
	rank := 0
	for n != nil {
		if bytes.Compare(n.key, key) < 0 {
			rank += sizeOf(n.left) + 1
			n = n.right
		} else {
			n = n.left
		}
	}
	return rank
}

// at returns the node of the key of which i keys are less.
func (n *node) at(i int) *node {
	for n != nil && i != sizeOf(n.left) {
		if i < sizeOf(n.left) {
			n = n.left
		} else {
			i -= sizeOf(n.left) + 1
			n = n.right
		}
	}
	return n
}

// each yields copies of the pairs in the order of keys, and reports whether all of them were wanted.
func (n *node) each(yield func(key, value []byte) bool) bool {
	return n == nil || n.left.each(yield) && yield(bytes.Clone(n.key), bytes.Clone(n.value)) && n.right.each(yield)
}

// gather calls visit for a node and those below it, each ahead of those below it, the left ones first: with what was gathered up to there, of which it returns what is gathered then.
func gather[T any](n *node, gathered T, visit func(gathered T, n *node) T) T {
	for ; n != nil; n = n.right {
		gathered = visit(gathered, n)
		gathered = gather(n.left, gathered, visit)
	}
	return gathered
}

// split returns the nodes of the pairs whose keys are less than a key, and of the others.
func (n *node) split(seed uint64, key []byte) (lesser, others *node) {
	if n == nil {
		return nil, nil
	}
	if bytes.Compare(n.key, key) < 0 {
		lesser, others = n.right.split(seed, key)
		return n.over(seed, n.left, lesser), others
	}
	lesser, others = n.left.split(seed, key)
	return lesser, n.over(seed, others, n.right)
}

// merge returns the nodes of all pairs of two nodes and those below them, if the keys of the first ones are less than those of the second ones.
func merge(seed uint64, a, b *node) *node {
	switch {
	case a == nil:
		return b
	case b == nil:
		return a
	case a.above(b.item):
		return a.over(seed, a.left, merge(seed, a.right, b))
	}
	return b.over(seed, merge(seed, a, b.left), b.right)
}

// with returns the nodes with an item, which takes the place of one that has its key.
func (n *node) with(seed uint64, i *item) *node {
	if n == nil || i.above(n.item) {
		lesser, others := n.split(seed, i.key)
		return newNode(seed, i, lesser, others)
	}
	switch bytes.Compare(i.key, n.key) {
	case -1:
		return n.over(seed, n.left.with(seed, i), n.right)
	case 1:
		return n.over(seed, n.left, n.right.with(seed, i))
	}
	return newNode(seed, i, n.left, n.right)
}

// without returns the nodes without the one of a key.
func (n *node) without(seed uint64, key []byte) *node {
	if n == nil {
		return nil
	}
	switch bytes.Compare(key, n.key) {
	case -1:
		return n.over(seed, n.left.without(seed, key), n.right)
	case 1:
		return n.over(seed, n.left, n.right.without(seed, key))
	}
	return merge(seed, n.left, n.right)
}

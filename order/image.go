package order

import (
	"bytes"

	"amnesty/api"
)

const (
	countSize = 4 // bytes of the number of pairs
	headSize  = 4 // bytes of a node's children and lengths
)

// The children of a node, as its image has them.
const (
	hasLeft  = 1
	hasRight = 2
)

// Nodes returns the nodes, each ahead of those below it, the left ones first.
func (m *Map) Nodes() []api.Node {
	return gather(m.root(), nil, func(list []api.Node, n *node) []api.Node {
		told := api.Node{Key: bytes.Clone(n.key), Value: bytes.Clone(n.value), Digest: n.digest, Size: n.size, Left: -1, Right: -1}
		next := len(list) + 1
		if n.left != nil {
			told.Left = next
		}
		if n.right != nil {
			told.Right = next + sizeOf(n.left)
		}
		return append(list, told)
	})
}

// Image returns the bytes of the map.
func (m *Map) Image() []byte {
	if m.missing() {
		return nil
	}
	count := appendLittle(nil, uint64(m.Len()), countSize)
	return gather(m.root(), count, func(image []byte, n *node) []byte {
		image = append(image, n.children(), byte(len(n.key)))
		image = appendLittle(image, uint64(len(n.value)), 2)
		image = append(image, n.key...)
		return append(image, n.value...)
	})
}

// children returns the byte that tells which children a node has.
func (n *node) children() byte {
	var children byte
	if n.left != nil {
		children |= hasLeft
	}
	if n.right != nil {
		children |= hasRight
	}
	return children
}

// Load returns the map of an image.
func Load(seed uint64, image []byte) (*Map, api.Errno) {
	r := &reader{seed: seed, rest: image}
	count, ok := r.number(countSize)
	if !ok || count > api.MaxPairs {
		return nil, api.ErrForm
	}
	root, ok := r.nodes(nil, count > 0)
	if !ok || sizeOf(root) != count || len(r.rest) > 0 {
		return nil, api.ErrForm
	}
	return newMap(seed, root), api.OK
}

// reader reads an image.
type reader struct {
	seed uint64
	rest []byte // what is not read yet
	last []byte // the key of the last node, in the order of keys, that has its place
}

// take reads so many bytes.
func (r *reader) take(size int) (taken []byte, ok bool) {
	if len(r.rest) < size {
		return nil, false
	}
	taken, r.rest = r.rest[:size], r.rest[size:]
	return taken, true
}

// number reads a number of so many bytes, the least one first.
func (r *reader) number(size int) (number int, ok bool) {
	taken, ok := r.take(size)
	for i, b := range taken {
		number |= int(b) << (8 * i)
	}
	return number, ok
}

// item reads which children a node has, and its pair.
func (r *reader) item() (children byte, i *item, ok bool) {
	head, ok := r.take(headSize)
	if !ok || head[0] > hasLeft+hasRight {
		return 0, nil, false
	}
	key, value := int(head[1]), int(head[2])|int(head[3])<<8
	pair, ok := r.take(key + value)
	if !ok || !allowed(key, value) {
		return 0, nil, false
	}
	return head[0], newItem(r.seed, pair[:key], pair[key:]), true
}

// nodes reads a node, if there is one, and all those below it. The node is held against the one above it ahead of those below it: so bytes that are no image are not followed deeper than the heights allow.
func (r *reader) nodes(top *item, there bool) (n *node, ok bool) {
	if !there {
		return nil, true
	}
	children, i, ok := r.item()
	if !ok || top != nil && !top.above(i) {
		return nil, false
	}
	left, ok := r.nodes(i, children&hasLeft != 0)
	if !ok || bytes.Compare(r.last, i.key) >= 0 {
		return nil, false
	}
	r.last = i.key
	right, ok := r.nodes(i, children&hasRight != 0)
	if !ok {
		return nil, false
	}
	return newNode(r.seed, i, left, right), true
}

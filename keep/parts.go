package keep

import (
	"amnesty/api"
	"amnesty/find"
	"amnesty/learn"
	"amnesty/order"
)

const lengthSize = 4 // bytes of the length of a part's image

// parts are what a store consists of. All that changes lies behind their pointers: so a Store that a caller copies is the same store still, as an order.Map is.
type parts struct {
	seed    uint64
	records *order.Map
	words   *find.Words
	boxes   *find.Boxes
	model   *learn.Model
}

// newParts returns the parts of an empty store.
func newParts(seed uint64) parts {
	return parts{seed, order.New(seed), find.NewWords(seed), find.NewBoxes(seed), learn.New()}
}

// find returns the record of a key.
func (p *parts) find(key string) (r record, there bool) {
	value, err := p.records.Get([]byte(key))
	if err != api.OK {
		return record{}, false
	}
	return recordOf([]byte(key), value)
}

// add adds a record whose key no other one has. No part refuses it, since none takes fewer than MaxKept records.
func (p *parts) add(r record) {
	p.note(r)
	number := numberOf(r.key)
	p.words.Add(number, r.text)
	p.boxes.Add(number, api.Box{X0: r.x, Y0: r.y, X1: r.x, Y1: r.y})
	p.model.Learn(api.Row{X: columns(r.x, r.y), Label: r.label})
}

// note writes down who holds a record, and whether it is due: of which the map alone tells.
func (p *parts) note(r record) {
	p.records.Put([]byte(r.key), r.value())
}

// remove takes out a record that was added.
func (p *parts) remove(r record) {
	p.records.Drop([]byte(r.key))
	number := numberOf(r.key)
	p.words.Drop(number)
	p.boxes.Drop(number)
	p.model.Unlearn(api.Row{X: columns(r.x, r.y), Label: r.label})
}

// images returns the images of the parts, in the order in which a store's image has them.
func (p *parts) images() [][]byte {
	return [][]byte{p.records.Image(), p.words.Image(), p.boxes.Image(), p.model.Image()}
}

// columns returns the columns of a point's row.
func columns(x, y int) [api.Columns]int {
	return [api.Columns]int{x, y}
}

package seam

import "crossband/api"

// widths is how wide the strips of a layer are; behind the last strip there are zeros.
type widths [api.MaxSeamStrips]int64

// place is where a seam lies: in a layer, so many units from its beginning.
type place struct {
	layer int
	at    int64
}

// bench is the bench, with the panel that is joined on it.
type bench struct {
	api.SeamPanel
	widths [api.MaxSeamLayers]widths // of each layer; those of none behind the last one
	marks  [api.MaxSeamStrips]bool   // the strips that an order was seen to have
	seams  [][]int64                 // of each layer, by its order, if there is one for each
	laid   map[place]int             // in how many of the orders that were laid a seam lies at a place
}

// lay returns a bench with a panel, or the error of the panel.
func lay(p api.SeamPanel) (*bench, api.Errno) {
	if e := CheckPanel(p); e != api.OK {
		return nil, e
	}
	b := &bench{SeamPanel: p, laid: map[place]int{}}
	for layer, strips := range b.Layers {
		copy(b.widths[layer][:], strips)
	}
	return b, api.OK
}

// joined returns a bench with a panel whose layers are joined by orders, or the error of the panel, or of the orders.
func joined(p api.SeamPanel, orders [][]int) (*bench, api.Errno) {
	b, e := lay(p)
	switch {
	case e != api.OK:
		return nil, e
	case len(orders) != len(b.Layers):
		return nil, api.ErrEqual
	case !every(orders, b.isOrder):
		return nil, api.ErrRule
	}
	for layer, order := range orders {
		b.seams = grown(b.seams, b.join(layer, order))
	}
	return b, api.OK
}

// joinedInAll returns a bench with a layer of a panel joined in all its orders, and how many these are; or the error of the panel, or of the layer.
func joinedInAll(p api.SeamPanel, layer int) (*bench, int, api.Errno) {
	b, e := lay(p)
	switch {
	case e != api.OK:
		return nil, 0, e
	case !b.isLayer(layer):
		return nil, 0, api.ErrArg
	}
	all := 0
	for order := range orders(len(b.Layers[layer])) {
		b.join(layer, order)
		all++
	}
	return b, all, api.OK
}

// join lays the seams of a layer, by an order of it, and returns them.
func (b *bench) join(layer int, order []int) []int64 {
	seams := b.widths[layer].seams(order)
	for _, at := range seams {
		b.laid[place{layer, at}]++
	}
	return seams
}

// seams returns the seams of a layer by an order of it. At the end of the last strip there is none.
func (w widths) seams(order []int) []int64 {
	var seams []int64
	at := int64(0)
	for _, strip := range order[:len(order)-1] {
		at += w[strip]
		seams = grown(seams, at)
	}
	return seams
}

// isLayer reports whether a layer has strips: those of none have no width.
func (b *bench) isLayer(layer int) bool {
	return within(0, len(b.widths)-1, layer) && b.widths[layer] != (widths{})
}

// isOrder reports whether strips are an order of a layer: as many as it has, none of them twice.
func (b *bench) isOrder(layer int, strips []int) bool {
	many := len(b.Layers[layer])
	if len(strips) != many || !within(0, many-1, strips...) {
		return false
	}
	clear(b.marks[:])
	for _, strip := range strips {
		if b.marks[strip] {
			return false
		}
		b.marks[strip] = true
	}
	return true
}

// meetings returns how many seams lie over one of the next layer, and keeps no other ones. From the first layer on, all of the next one are still there.
func (b *bench) meetings() int {
	for layer, seams := range b.seams {
		for _, at := range seams {
			if b.laid[place{layer + 1, at}] == 0 {
				delete(b.laid, place{layer, at})
			}
		}
	}
	return len(b.laid)
}

// through returns the seams of the first layer that all other ones have too.
func (b *bench) through() []int64 {
	var list []int64
search:
	for _, at := range b.seams[0] {
		for layer := range b.seams {
			if b.laid[place{layer, at}] == 0 {
				continue search
			}
		}
		list = grown(list, at)
	}
	return list
}

// distance returns how far seams of neighbours are apart.
func (b *bench) distance() int64 {
	least := width(b.Layers[0])
	for layer, next := range b.seams[1:] {
		least = gap(b.seams[layer], next, least)
	}
	return least
}

// common returns where at least so many of the orders that were laid have a seam of a layer, increasing.
func (b *bench) common(layer, least int) []int64 {
	var list []int64
	for at := range width(b.Layers[layer]) {
		if b.laid[place{layer, at}] >= least {
			list = grown(list, at)
		}
	}
	return list
}

package od

import (
	"cmp"
	"slices"

	"tramway/api"
	"tramway/types"
)

const subBits = 8 // of a place

// place is an Index, and below it a Sub: as numbers, places are in the order of a dictionary.
type place uint32

func placeOf(index uint16, sub uint8) place { return place(index)<<subBits | place(sub) }

// item is an entry and what it has. Its Default and its value are Plain.
type item struct {
	api.Entry
	value api.Value
}

func (x *item) place() place { return placeOf(x.Index, x.Sub) }

// itemsOf is entries that can be a dictionary as items, by their places.
func itemsOf(l []api.Entry) []*item {
	items := make([]*item, len(l))
	for i, e := range l {
		e.Default = types.Plain(e.Default)
		items[i] = &item{Entry: e, value: e.Default}
	}
	slices.SortFunc(items, func(x, y *item) int { return cmp.Compare(x.place(), y.place()) })
	return items
}

// find is the item at a place; or the code by which there is none.
func (d *Dict) find(index uint16, sub uint8) (*item, uint32) {
	i, is := slices.BinarySearchFunc(d.items, placeOf(index, sub), func(x *item, at place) int { return cmp.Compare(x.place(), at) })
	switch {
	case is:
		return d.items[i], api.Fine
	case slices.ContainsFunc(d.items, func(x *item) bool { return x.Index == index }):
		return nil, api.NoSub
	}
	return nil, api.NoObject
}

// bytes are those of what the item has, which can be: it is never refused.
func (x *item) bytes() []byte {
	b, _ := types.Encode(x.value)
	return b
}

// beyond is the code by which the item's limits refuse a value of its type.
func (x *item) beyond(v api.Value) uint32 {
	if !x.Limited {
		return api.Fine
	}
	if n, _ := types.Order(v, x.Max); n > 0 {
		return api.TooHigh
	}
	if n, _ := types.Order(v, x.Min); n < 0 {
		return api.TooLow
	}
	return api.Fine
}

package heap

import (
	"math"
	"slices"

	"colloquy/api"
	"colloquy/lattice"
	"colloquy/object"
)

// All returns all objects in the order of their numbers, and how many objects of each level were ever added.
func (h *Heap) All() ([]Item, []int) {
	if h == nil {
		return nil, nil
	}
	items := make([]Item, 0, h.n)
	for _, item := range h.slots {
		if item != nil {
			items = append(items, Item{I: item.I, Hash: item.Hash, O: copied(item.O)})
		}
	}
	return items, slices.Clone(h.counts[:h.levels()])
}

// Load returns a Heap for which All returns these items and counts.
func Load(l lattice.Lat, room int, quota []int, items []Item, counts []int) (*Heap, error) {
	h, err := New(l, room, quota...)
	if err != nil {
		return nil, err
	}
	if !areCounts(h.levels(), counts) || !areItems(h.levels(), items, counts) {
		return nil, api.ErrArg
	}
	copy(h.counts[:], counts)
	for _, item := range items {
		if !h.hasRoom(item.O) {
			return nil, api.ErrFull
		}
		h.place(item)
	}
	return h, nil
}

// areCounts reports whether there may have been added so many objects of each of the levels.
func areCounts(levels int, counts []int) bool {
	isOther := func(n int) bool { return n < 0 || n > math.MaxInt32 }
	return len(counts) == levels && !slices.ContainsFunc(counts, isOther)
}

// areItems reports whether items may be the objects of a Heap, with one of the counts for each of the levels.
func areItems(levels int, items []Item, counts []int) bool {
	least := 0
	for _, item := range items {
		if item.I < least || item.I >= api.MaxObjects || !object.May(levels, item.O) ||
			!isIndex(item.Hash, counts[item.O.Level]) {
			return false
		}
		least = item.I + 1
	}
	return true
}

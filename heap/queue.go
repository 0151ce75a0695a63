package heap

import (
	"cmp"
	"iter"
	"slices"

	"roundhouse/api"
)

// queue has its items in a binary tree: those at 2i+1 and 2i+2 are the children of the one at i, which is ahead of both.
type queue struct {
	items  []api.Item
	places map[int]int // where in items each ID is
}

// order is negative if x is ahead of y, and 0 only if both are the same item.
func order(x, y api.Item) int {
	return cmp.Or(cmp.Compare(x.At, y.At), cmp.Compare(x.N, y.N), cmp.Compare(x.ID, y.ID))
}

// add puts an item in whose ID is not there.
func (q *queue) add(x api.Item) {
	i := len(q.items)
	q.items = append(q.items, x)
	q.replace(i, x)
}

// remove takes the item at i out.
func (q *queue) remove(i int) {
	end := len(q.items) - 1
	last := q.items[end]
	delete(q.places, q.items[i].ID)
	q.items = q.items[:end]
	if i < end {
		q.replace(i, last)
	}
}

// replace puts x in the place i, and from there to where it belongs.
func (q *queue) replace(i int, x api.Item) {
	q.put(i, x)
	// An item that rises leaves its former parent in its place, which is ahead of all below: at most one of the two does anything.
	q.rise(i)
	q.sink(i)
}

// rise moves the item at i towards the root until its parent is ahead of it.
func (q *queue) rise(i int) {
	x := q.items[i]
rising:
	for i > 0 {
		parent := (i - 1) / 2
		if order(q.items[parent], x) < 0 {
			break rising
		}
		q.put(i, q.items[parent])
		i = parent
	}
	q.put(i, x)
}

// sink moves the item at i towards the leaves until it is ahead of its children.
func (q *queue) sink(i int) {
	x := q.items[i]
sinking:
	for {
		child := 2*i + 1
		switch {
		case child >= len(q.items):
			break sinking
		case child+1 < len(q.items) && order(q.items[child+1], q.items[child]) < 0:
			child++
		}
		if order(x, q.items[child]) < 0 {
			break sinking
		}
		q.put(i, q.items[child])
		i = child
	}
	q.put(i, x)
}

// put lays an item at i and notes where it is.
func (q *queue) put(i int, x api.Item) {
	q.items[i] = x
	q.places[x.ID] = i
}

// due takes out and yields the items whose deadline is at most now, in order.
func (q *queue) due(now uint64) iter.Seq[api.Item] {
	return func(yield func(api.Item) bool) {
		for len(q.items) > 0 && q.items[0].At <= now {
			first := q.items[0]
			q.remove(0)
			if !yield(first) {
				return
			}
		}
	}
}

// sorted is all items in order, in new memory.
func (q *queue) sorted() []api.Item {
	return slices.SortedFunc(slices.Values(q.items), order)
}

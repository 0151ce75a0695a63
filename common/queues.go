package common

import (
	"iter"

	"roundhouse/api"
	"roundhouse/heap"
)

// kept is what a Set keeps. Its heap has the separate items and the first one of each queue; that one is ahead of all others in the queue, so the heap's top is the first item of all.
type kept struct {
	heap   *heap.Heap
	queues []*queue       // of the common timeouts
	places map[int]*place // by ID
	adds   uint64         // the N of the next item
}

// queue has items of a common timeout. It is a ring of places through an end, so that an item can leave without a walk along the others.
type queue struct {
	after uint64
	end   place // the first place is behind it, the last one before it
}

// place is where an item is: in which queue, and between which others; in none if it is separate.
type place struct {
	item           api.Item
	in             *queue
	before, behind *place
}

func newKept() *kept {
	return &kept{heap: heap.New(), places: map[int]*place{}}
}

func newQueue(after uint64) *queue {
	q := &queue{after: after}
	q.end.before, q.end.behind = &q.end, &q.end
	return q
}

// each yields the queues, in the order in which their timeouts became common.
func (k *kept) each() iter.Seq[*queue] {
	return func(yield func(*queue) bool) {
		for _, q := range k.queues {
			if !yield(q) {
				return
			}
		}
	}
}

// queue is that of a timeout, or nil if the timeout is not common.
func (k *kept) queue(after uint64) *queue {
	var found *queue
search:
	for q := range k.each() {
		if q.after == after {
			found = q
			break search
		}
	}
	return found
}

// items yields all items, in no order.
func (k *kept) items() iter.Seq[api.Item] {
	return func(yield func(api.Item) bool) {
		for _, p := range k.places {
			if !yield(p.item) {
				return
			}
		}
	}
}

// add puts an item whose ID is not there into the queue of its timeout, or lets it be separate.
func (k *kept) add(x api.Item, after uint64) {
	p := &place{item: x}
	k.places[x.ID] = p
	q := k.queue(after)
	if q == nil || x.At < q.last() {
		k.heap.Push(x)
		return
	}
	if q.empty() {
		k.heap.Push(x)
	}
	q.join(p)
}

// remove takes an item out of its place, and lets the one that is the first of its queue now into the heap.
func (k *kept) remove(p *place) {
	delete(k.places, p.item.ID)
	_, first := k.heap.Take(p.item.ID)
	if p.in == nil {
		return
	}
	p.leave()
	if first && !p.in.empty() {
		k.heap.Push(p.in.end.behind.item)
	}
}

func (q *queue) empty() bool {
	return q.end.behind == &q.end
}

// last is the deadline of the last item, or 0 if there is none, which every item may follow.
func (q *queue) last() uint64 {
	return q.end.before.item.At
}

// join links a place that is in no queue to the end of this one.
func (q *queue) join(p *place) {
	p.in, p.before, p.behind = q, q.end.before, &q.end
	p.before.behind, p.behind.before = p, p
}

// leave links the two beside a place to each other.
func (p *place) leave() {
	p.before.behind, p.behind.before = p.behind, p.before
}

package prio

import "iter"

// maxCount is what an item's count is limited to.
const maxCount = 1<<31 - 1

// rows are the queues of Queues: each is a ring of places through an end, so that an item can leave or join without a walk along the others.
type rows struct {
	ends   []place        // by priority: the first place of its queue is behind it, the last one before it
	places map[int]*place // by ID
}

// place is where an item stands: in which queue, and between which others.
type place struct {
	item           Item
	prio           int
	before, behind *place
}

func newRows(many int) *rows {
	r := &rows{ends: make([]place, many), places: map[int]*place{}}
	for i := range r.ends {
		end := &r.ends[i]
		end.before, end.behind = end, end
	}
	return r
}

// add appends an item whose ID is not there, without flags and count.
func (r *rows) add(prio, id int) *place {
	p := &place{item: Item{ID: id}}
	r.places[id] = p
	r.join(p, prio)
	return p
}

// remove takes a place out of its queue, and forgets its ID.
func (r *rows) remove(p *place) {
	p.leave()
	delete(r.places, p.item.ID)
}

// move takes a place from its queue to the end of another one.
func (r *rows) move(p *place, prio int) {
	p.leave()
	r.join(p, prio)
}

// join links a place that is in no queue to the end of one.
func (r *rows) join(p *place, prio int) {
	end := &r.ends[prio]
	p.prio, p.before, p.behind = prio, end.before, end
	p.before.behind, p.behind.before = p, p
}

// leave links the two beside a place to each other.
func (p *place) leave() {
	p.before.behind, p.behind.before = p.behind, p.before
}

// more adds flags and a count to an item.
func (x *Item) more(flags, count int) {
	x.Flags |= flags
	// Cut what is added, not the sum, which could wrap round.
	x.Count += min(count, maxCount-x.Count)
}

// row yields the items of one queue, in order.
func (r *rows) row(prio int) iter.Seq[Item] {
	return func(yield func(Item) bool) {
		end := &r.ends[prio]
		for p := end.behind; p != end; p = p.behind {
			if !yield(p.item) {
				return
			}
		}
	}
}

// items yields all items with their priorities, the most urgent ones first.
func (r *rows) items() iter.Seq2[int, Item] {
	return func(yield func(int, Item) bool) {
		for prio := range r.ends {
			for x := range r.row(prio) {
				if !yield(prio, x) {
					return
				}
			}
		}
	}
}

// urgent is the items of the most urgent queue that has any, in order.
func (r *rows) urgent() []Item {
	var l []Item
	least := none
batch:
	for prio, x := range r.items() {
		switch least {
		case none, prio:
			least = prio
			l = append(l, x)
		default:
			break batch
		}
	}
	return l
}

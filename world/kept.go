package world

import (
	"iter"

	"roundhouse/api"
	"roundhouse/sigs"
)

// kept is what a World that New made has.
type kept struct {
	now     uint64
	wires   []*wire             // by number; none is ever removed
	fds     [api.MaxFd + 1]*end // by descriptor; nil if it is free
	signals *sigs.Sigs
	notice  *end // nil if there is none
}

// numbers yields the descriptors that are open, or those that are free, in ascending order.
func (k *kept) numbers(open bool) iter.Seq[int] {
	return func(yield func(int) bool) {
		for fd := range k.fds {
			if (k.fds[fd] != nil) == open && !yield(fd) {
				return
			}
		}
	}
}

// free is the smallest free descriptors, as many as are needed, or ErrMany if there are not so many.
func (k *kept) free(need int) ([]int, api.Errno) {
	var l []int
taking:
	for fd := range k.numbers(false) {
		l = append(l, fd)
		if len(l) == need {
			break taking
		}
	}
	if len(l) < need {
		return nil, api.ErrMany
	}
	return l, api.OK
}

// lay adds a wire whose first ends, so many of them, can read.
func (k *kept) lay(capacity, readers int) *wire {
	x := newWire(len(k.wires), capacity, readers)
	k.wires = append(k.wires, x)
	return x
}

// layOut adds a wire whose second end is outside.
func (k *kept) layOut(capacity int) *wire {
	x := k.lay(capacity, 2)
	x.ends[1].is = outside
	return x
}

// open gives an end a free descriptor.
func (k *kept) open(fd int, p *end) {
	p.is = inside
	k.fds[fd] = p
}

// notify lets the notice be as the signals are: something is in its ring as long as one is pending, whoever read it or wrote to it in between. So it comes behind each call that concerns signals, also one that is refused.
func (k *kept) notify() {
	p := k.notice
	switch {
	case p == nil:
	case k.signals.Pending() == 0:
		p.drain(p.ring.Len())
	case p.ring.Len() == 0:
		p.fill([]byte{1})
	}
}

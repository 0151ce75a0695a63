package world

import (
	"roundhouse/api"
	"roundhouse/ring"
)

// What an end is.
const (
	nobodys = iota // the first one of a connection that waits
	inside
	outside
	closed
)

// wire has two ends; of a listener's wire only the first one is used, and none has a ring.
type wire struct {
	number  int
	ends    [2]end
	reset   bool
	backlog int     // 0 unless the wire is a listener's
	waiting []*wire // at the listener, in the order in which they came
}

// end is one of a wire's two.
type end struct {
	wire   *wire
	index  int
	is     int
	shut   bool
	ring   *ring.Ring // what the other end writes; nil if this one can't read
	reads  uint64
	writes uint64
}

// newWire is a wire whose first ends, so many of them, can read; both ends are nobody's.
func newWire(number, capacity, readers int) *wire {
	x := &wire{number: number}
	for i := range x.ends {
		p := &x.ends[i]
		p.wire, p.index = x, i
		if i < readers {
			p.ring, _ = ring.New(capacity) // the callers know that the capacity is good
		}
	}
	return x
}

// wait lets a connection wait at the listener.
func (x *wire) wait(y *wire) {
	x.waiting = append(x.waiting, y)
	x.ends[0].reads++
}

// next is the first connection that waits at the listener, which it no longer does.
func (x *wire) next() *wire {
	y := x.waiting[0]
	x.waiting = x.waiting[1:]
	return y
}

// fail resets the wire.
func (x *wire) fail() {
	if x.reset {
		return
	}
	x.reset = true
	for i := range x.ends {
		p := &x.ends[i]
		p.ring.Clear() // not by drain: what is discarded was not read
		p.readsRise()
		p.writesRise()
	}
}

func (p *end) other() *end {
	return &p.wire.ends[1-p.index]
}

func (p *end) canRead() bool {
	return p.ring != nil
}

func (p *end) canWrite() bool {
	return p.other().canRead()
}

// noWriter says whether nobody writes any more what the end could read.
func (p *end) noWriter() bool {
	return p.other().is == closed || p.other().shut
}

// noReader says whether nobody will read what the end could write.
func (p *end) noReader() bool {
	return p.other().is == closed
}

// ready is what the end is ready for, if it is a descriptor's.
func (p *end) ready() api.Ready {
	x := p.wire
	return api.Ready{
		Open:   true,
		In:     len(x.waiting) > 0 || p.canRead() && (p.ring.Len() > 0 || p.noWriter() || x.reset),
		Out:    p.canWrite() && !p.shut && (p.other().ring.Room() > 0 || p.noReader() || x.reset),
		Hup:    p.other().is == closed,
		Err:    x.reset,
		Reads:  p.reads,
		Writes: p.writes,
	}
}

// fill puts bytes into the ring of an end that can read, as many as there is room for, and says how many.
func (p *end) fill(b []byte) int {
	n := p.ring.Put(b)
	if n > 0 {
		p.readsRise()
	}
	return n
}

// drain is the first n bytes of the ring of an end that can read, or all if there are fewer; they are removed.
func (p *end) drain(n int) []byte {
	b := p.ring.Take(n)
	if len(b) > 0 {
		p.other().writesRise()
	}
	return b
}

// stop makes the end write no more.
func (p *end) stop() {
	if !p.shut {
		p.shut = true
		p.other().readsRise()
	}
}

// close closes the end.
func (p *end) close() {
	p.is = closed
	if !p.shut { // otherwise the other end has had no writer since then
		p.other().readsRise()
	}
	p.other().writesRise()
}

// readsRise counts for an end that can read that it may have become ready to.
func (p *end) readsRise() {
	if p.canRead() {
		p.reads++
	}
}

// writesRise counts for an end that can write that it may have become ready to.
func (p *end) writesRise() {
	if p.canWrite() {
		p.writes++
	}
}

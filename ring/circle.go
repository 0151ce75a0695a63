package ring

import "iter"

// circle has the bytes of a ring in places that go round. Bytes are numbered from 0 on as they are put; number n is at n modulo the number of places.
type circle struct {
	capacity int
	places   []byte // not all of the capacity before it is needed: a wide ring of few bytes costs little
	in, out  uint64 // how many bytes were put and removed: the numbers of the next byte to come and of the first one that is there
}

func (c *circle) length() int {
	return int(c.in - c.out)
}

// put appends bytes that there is room for.
func (c *circle) put(b []byte) {
	if need := c.length() + len(b); need > len(c.places) {
		// Twice as many as before, or more: bytes that come one by one are seldom laid anew.
		c.lay(min(max(need, 2*len(c.places)), c.capacity))
	}
	c.write(c.in, b)
	c.in += uint64(len(b))
}

// drop removes the first n bytes; there are as many.
func (c *circle) drop(n int) {
	c.out += uint64(n)
}

// first is the first n bytes, in new memory; there are as many.
func (c *circle) first(n int) []byte {
	b := make([]byte, n)
	done := 0
gathering:
	for piece := range c.segments(c.out, c.length()) {
		done += copy(b[done:], piece)
		if done == n {
			break gathering
		}
	}
	return b
}

// resize sets the capacity, which the bytes must fit into.
func (c *circle) resize(capacity int) {
	c.capacity = capacity
	if len(c.places) > capacity {
		c.lay(capacity)
	}
}

// lay moves the bytes to so many new places, which they must fit into.
func (c *circle) lay(places int) {
	b := c.first(c.length())
	c.places = make([]byte, places)
	c.write(c.out, b)
}

// write lays b into the places of the bytes from number from on.
func (c *circle) write(from uint64, b []byte) {
	for piece := range c.segments(from, len(b)) {
		b = b[copy(piece, b):]
	}
}

// segments yields the places of n bytes from number from on: in one piece, or in two where they go round.
func (c *circle) segments(from uint64, n int) iter.Seq[[]byte] {
	return func(yield func([]byte) bool) {
		if n == 0 {
			return // there may be no places at all
		}
		start := int(from % uint64(len(c.places)))
		end := min(start+n, len(c.places))
		if yield(c.places[start:end]) && end < start+n {
			yield(c.places[:start+n-end])
		}
	}
}

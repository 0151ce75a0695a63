package chain

import (
	"iter"
	"slices"

	"roundhouse/api"
)

// link is a chunk, and the one behind it.
type link struct {
	bytes  []byte // at least one; the room up to their capacity is no other link's
	behind *link
}

// links are the chunks of a chain: they join at both ends, and leave at the front, without a walk along the others.
type links struct {
	first, last *link // nil if there is no chunk
	length      int   // of all chunks
}

// single is one chunk.
func single(b []byte) links {
	p := &link{bytes: b}
	return links{first: p, last: p, length: len(b)}
}

// add appends bytes: to the room that the last chunk has, and in new chunks.
func (l *links) add(b []byte) {
	if p := l.last; p != nil {
		n := min(len(b), cap(p.bytes)-len(p.bytes))
		p.bytes = append(p.bytes, b[:n]...)
		l.length += n
		b = b[n:]
	}
	for piece := range slices.Chunk(b, api.Chunk) {
		l.join(single(append(make([]byte, 0, api.Chunk), piece...)))
	}
}

// ahead prepends bytes, in new chunks.
func (l *links) ahead(b []byte) {
	for len(b) > 0 {
		rest := max(0, len(b)-api.Chunk)
		l.lead(b[rest:])
		b = b[:rest]
	}
}

// lead prepends one chunk of these bytes, without room: chunks of few bytes that come ahead one by one would have much of it, in vain.
func (l *links) lead(b []byte) {
	own := make([]byte, len(b))
	copy(own, b)
	front := single(own)
	front.join(*l)
	*l = front
}

// join takes over other chunks, behind those that are there.
func (l *links) join(x links) {
	switch {
	case x.first == nil:
		return
	case l.first == nil:
		*l = x
		return
	}
	l.last.behind = x.first
	l.last = x.last
	l.length += x.length
}

// cut takes the first n bytes out, in the chunks in which they are; there are as many.
func (l *links) cut(n int) links {
	var front links
	for front.length < n && l.first != nil {
		front.join(l.shift(n - front.length))
	}
	return front
}

// shift takes the first chunk out, or only n bytes of it if it has more; there is a chunk.
func (l *links) shift(n int) links {
	p := l.first
	if n < len(p.bytes) {
		// The part has no room: what came into it would overwrite the rest.
		part := single(p.bytes[:n:n])
		p.bytes = p.bytes[n:]
		l.length -= n
		return part
	}
	l.first = p.behind
	l.length -= len(p.bytes)
	if l.first == nil {
		*l = links{}
	}
	p.behind = nil
	return links{first: p, last: p, length: len(p.bytes)}
}

// pieces yields the bytes from an index on, chunk by chunk, each piece with its index.
func (l *links) pieces(from int) iter.Seq2[int, []byte] {
	return func(yield func(int, []byte) bool) {
		at := 0
		// Bounded by the length too: a Chain that was copied shares its links, which may then lead in a circle.
		for p := l.first; p != nil && at < l.length; p = p.behind {
			end := len(p.bytes)
			skip := max(0, from-at)
			if skip < end && !yield(at+skip, p.bytes[skip:end:end]) {
				return
			}
			at += end
		}
	}
}

// copied is n bytes from an index on, in new memory; there are as many, and at least one.
func (l *links) copied(from, n int) []byte {
	b := make([]byte, 0, n)
gathering:
	for _, piece := range l.pieces(from) {
		b = append(b, piece[:min(len(piece), n-len(b))]...)
		if len(b) == n {
			break gathering
		}
	}
	return b
}

// find is the least index from an index on at which what stands, and whether there is one; what has at least one byte.
func (l *links) find(what []byte, from int) (int, bool) {
	ends := finder(what)
	end := 0
search:
	for at, piece := range l.pieces(from) {
		for i, x := range piece {
			if ends(x) {
				end = at + i + 1
				break search
			}
		}
	}
	if end == 0 {
		return 0, false
	}
	return end - len(what), true
}

// finder is a function that is called with byte after byte, up to the first for which it says that what ends there.
func finder(what []byte) func(byte) bool {
	// If n bytes of what fit and the next does not, still back[n] of them fit. So no byte is looked at again, whatever repeats itself in what.
	back := make([]int, len(what))
	next := func(n int, x byte) int {
		for n > 0 && what[n] != x {
			n = back[n]
		}
		if what[n] == x {
			n++
		}
		return n
	}
	for n := 1; n < len(what)-1; n++ {
		back[n+1] = next(back[n], what[n])
	}
	fit := 0
	return func(x byte) bool {
		fit = next(fit, x)
		return fit == len(what)
	}
}

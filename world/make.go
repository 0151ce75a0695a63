package world

import "roundhouse/api"

// Pipe makes a wire with two descriptors: the first one reads what the second one writes.
func (w *World) Pipe(capacity int) (r, s int, e api.Errno) {
	return w.both(capacity, 1)
}

// Pair makes a wire with two descriptors, each of which reads what the other one writes.
func (w *World) Pair(capacity int) (a, b int, e api.Errno) {
	return w.both(capacity, 2)
}

// Outer makes a wire with one descriptor, whose other end is outside.
func (w *World) Outer(capacity int) (fd, wire int, e api.Errno) {
	fds, e := w.room(capacity, api.MaxRing, 1)
	if e != api.OK {
		return 0, 0, e
	}
	x := w.k.layOut(capacity)
	w.k.open(fds[0], &x.ends[0])
	return fds[0], x.number, api.OK
}

// Listen makes a listener, at which as many connections wait as backlog says, at most.
func (w *World) Listen(backlog int) (fd, wire int, e api.Errno) {
	fds, e := w.room(backlog, api.MaxBacklog, 1)
	if e != api.OK {
		return 0, 0, e
	}
	x := w.k.lay(0, 0)
	x.backlog = backlog
	w.k.open(fds[0], &x.ends[0])
	return fds[0], x.number, api.OK
}

// Accept gives the first connection that waits at a listener a descriptor.
func (w *World) Accept(fd int) (n, wire int, e api.Errno) {
	p, e := w.find(fd)
	switch {
	case e != api.OK:
		return 0, 0, e
	case p.wire.backlog == 0:
		return 0, 0, api.ErrKind
	case len(p.wire.waiting) == 0:
		return 0, 0, api.ErrAgain
	}
	fds, e := w.k.free(1)
	if e != api.OK {
		return 0, 0, e
	}
	x := p.wire.next()
	w.k.open(fds[0], &x.ends[0])
	return fds[0], x.number, api.OK
}

// both makes a wire with two descriptors, of which the first ones, so many of them, can read.
func (w *World) both(capacity, readers int) (a, b int, e api.Errno) {
	fds, e := w.room(capacity, api.MaxRing, 2)
	if e != api.OK {
		return 0, 0, e
	}
	x := w.k.lay(capacity, readers)
	for i, fd := range fds {
		w.k.open(fd, &x.ends[i])
	}
	return fds[0], fds[1], api.OK
}

// room is the descriptors for a new wire that needs so many, or the error of a call that makes one, whose capacity, or backlog, is n, and may be most.
func (w *World) room(n, most, need int) ([]int, api.Errno) {
	switch {
	case !w.made():
		return nil, api.ErrNil
	case n < 1 || n > most:
		return nil, api.ErrArg
	case len(w.k.wires) == api.MaxWires:
		return nil, api.ErrMany
	}
	return w.k.free(need)
}

package world

import "roundhouse/api"

// Read is the first n bytes that can be read from a descriptor, or all if there are fewer; end says that there are none, and will be none.
func (w *World) Read(fd, n int) (b []byte, end bool, e api.Errno) {
	p, e := w.find(fd)
	switch {
	case e != api.OK:
		return nil, false, e
	case !p.canRead():
		return nil, false, api.ErrKind
	case n < 1:
		return nil, false, api.ErrArg
	case p.wire.reset:
		return nil, false, api.ErrReset
	case p.ring.Len() > 0:
		return p.drain(n), false, api.OK
	case p.noWriter():
		return nil, true, api.OK
	}
	return nil, false, api.ErrAgain
}

// Write writes the first bytes of b to a descriptor, as many as there is room for, and says how many.
func (w *World) Write(fd int, b []byte) (int, api.Errno) {
	p, e := w.find(fd)
	switch {
	case e != api.OK:
		return 0, e
	case !p.canWrite():
		return 0, api.ErrKind
	case p.wire.reset:
		return 0, api.ErrReset
	case p.shut || p.noReader():
		return 0, api.ErrPipe
	case len(b) > 0 && p.other().ring.Room() == 0:
		return 0, api.ErrAgain
	}
	return p.other().fill(b), api.OK
}

// Shut makes a descriptor write no more.
func (w *World) Shut(fd int) api.Errno {
	p, e := w.find(fd)
	switch {
	case e != api.OK:
		return e
	case !p.canRead() || !p.canWrite():
		return api.ErrKind
	}
	p.stop()
	return api.OK
}

// Close closes a descriptor, and with a listener what waits there.
func (w *World) Close(fd int) api.Errno {
	p, e := w.find(fd)
	if e != api.OK {
		return e
	}
	p.close()
	w.k.fds[fd] = nil
	for _, x := range p.wire.waiting {
		x.ends[0].close()
	}
	p.wire.waiting = nil
	return api.OK
}

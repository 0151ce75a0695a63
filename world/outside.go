package world

import "roundhouse/api"

// Put puts the first bytes of b in from outside, as many as there is room for, and says how many.
func (w *World) Put(wire int, b []byte) (int, api.Errno) {
	p, e := w.outer(wire)
	switch {
	case e != api.OK:
		return 0, e
	case p.wire.reset:
		return 0, api.ErrReset
	case p.shut || p.noReader():
		return 0, api.ErrPipe
	}
	return p.other().fill(b), api.OK
}

// Take takes the first n bytes out that were written to the end outside, or all if there are fewer.
func (w *World) Take(wire, n int) ([]byte, api.Errno) {
	p, e := w.outer(wire)
	switch {
	case e != api.OK:
		return nil, e
	case n < 0:
		return nil, api.ErrArg
	case p.wire.reset:
		return nil, api.ErrReset
	}
	return p.drain(n), api.OK
}

// PeerShut makes the end outside write no more.
func (w *World) PeerShut(wire int) api.Errno {
	p, e := w.outer(wire)
	if e == api.OK {
		p.stop()
	}
	return e
}

// PeerClose closes the end outside.
func (w *World) PeerClose(wire int) api.Errno {
	p, e := w.outer(wire)
	if e == api.OK {
		p.close()
	}
	return e
}

// Reset resets a wire, whose bytes are lost.
func (w *World) Reset(wire int) api.Errno {
	p, e := w.outer(wire)
	if e == api.OK {
		p.wire.fail()
	}
	return e
}

// Connect makes a connection wait at a listener, and answers the number of its wire.
func (w *World) Connect(wire, capacity int) (int, api.Errno) {
	x, e := w.wire(wire)
	switch {
	case e != api.OK:
		return 0, e
	case x.backlog == 0 || x.ends[0].is == closed:
		return 0, api.ErrWire
	case capacity < 1 || capacity > api.MaxRing:
		return 0, api.ErrArg
	case len(x.waiting) == x.backlog:
		return 0, api.ErrAgain
	case len(w.k.wires) == api.MaxWires:
		return 0, api.ErrMany
	}
	y := w.k.layOut(capacity)
	x.wait(y)
	return y.number, api.OK
}

// wire is the wire with a number, or the error of a call that names it.
func (w *World) wire(number int) (*wire, api.Errno) {
	switch {
	case !w.made():
		return nil, api.ErrNil
	case number < 0 || number >= len(w.k.wires):
		return nil, api.ErrWire
	}
	return w.k.wires[number], api.OK
}

// outer is the end of a wire that is outside, or the error of a call that needs it.
func (w *World) outer(number int) (*end, api.Errno) {
	x, e := w.wire(number)
	switch {
	case e != api.OK:
		return nil, e
	case x.ends[1].is != outside:
		return nil, api.ErrWire
	}
	return &x.ends[1], api.OK
}

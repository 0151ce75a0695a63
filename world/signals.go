package world

import "roundhouse/api"

// Handle lets a signal be handled from now on, or not, and then it is no longer pending.
func (w *World) Handle(sig int, on bool) api.Errno {
	if !w.made() {
		return api.ErrNil
	}
	defer w.k.notify()
	return w.k.signals.Handle(sig, on)
}

// Raise makes a signal pending once more if it is handled.
func (w *World) Raise(sig int) api.Errno {
	if !w.made() {
		return api.ErrNil
	}
	defer w.k.notify()
	return w.k.signals.Raise(sig)
}

// Pending is how often all signals are pending, in total.
func (w *World) Pending() int {
	if !w.made() {
		return 0
	}
	return w.k.signals.Pending()
}

// Count is how often a signal is pending.
func (w *World) Count(sig int) int {
	if !w.made() {
		return 0
	}
	return w.k.signals.Count(sig)
}

// Signals is every pending signal with its count, in ascending order; none is pending any longer.
func (w *World) Signals() []api.Count {
	if !w.made() {
		return nil
	}
	defer w.k.notify()
	return w.k.signals.Take()
}

// Notice makes the descriptor a, whose pair has b at its other end, that by which signals are noticed.
func (w *World) Notice(a, b int) api.Errno {
	if !w.made() {
		return api.ErrNil
	}
	defer w.k.notify()
	p, e := w.find(a)
	if e != api.OK {
		return e
	}
	q, e := w.find(b)
	if e != api.OK {
		return e
	}
	// Of the wires with two descriptors only a pair has an end that can both read and write.
	if p.other() != q || !p.canRead() || !p.canWrite() {
		return api.ErrKind
	}
	w.k.notice = p
	return api.OK
}

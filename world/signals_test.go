package world_test

import (
	"math"
	"slices"
	"strings"
	"testing"

	"roundhouse/api"
	"roundhouse/world"
)

func signals(t *testing.T, w *world.World, want ...api.Count) {
	t.Helper()
	if l := w.Signals(); !slices.Equal(l, want) {
		t.Fatalf("Signals = %v, want %v", l, want)
	}
}

// noticed is a world with a pair 0, 1 of capacity 2, whose end 0 is the notice, and signals 2 and 9 that are handled.
func noticed(t *testing.T) *world.World {
	t.Helper()
	w := world.New()
	pair(t, w, 2)
	errors(t, "Notice, Handle", api.OK, w.Notice(0, 1), w.Handle(2, true), w.Handle(9, true))
	ready(t, w, 0, api.Ready{Out: true})
	return w
}

func TestSignals(t *testing.T) {
	w := world.New()
	signals(t, w)
	errors(t, "Handle, Raise", api.OK, w.Handle(9, true), w.Raise(9), w.Handle(2, true), w.Raise(5), w.Raise(9), w.Raise(2))
	for range 2 {
		if w.Pending() != 3 || w.Count(9) != 2 || w.Count(2) != 1 || w.Count(5) != 0 {
			t.Errorf("Pending = %d, Count = %d, %d, %d", w.Pending(), w.Count(9), w.Count(2), w.Count(5))
		}
	}
	image(t, w, "now 0", "signal 2 1", "signal 9 2")
	signals(t, w, api.Count{Sig: 2, N: 1}, api.Count{Sig: 9, N: 2})
	signals(t, w)
	errors(t, "Raise, Handle", api.OK, w.Raise(2), w.Raise(9), w.Handle(2, false), w.Raise(2))
	image(t, w, "now 0", "signal 9 1")
	signals(t, w, api.Count{Sig: 9, N: 1})
	for sig := 1; sig <= api.MaxSig; sig++ {
		errors(t, "Handle, Raise", api.OK, w.Handle(sig, true), w.Raise(sig), w.Handle(sig, true))
		signals(t, w, api.Count{Sig: sig, N: 1})
	}
}

func TestNoSignals(t *testing.T) {
	w := noticed(t)
	w.Raise(9)
	before := w.Image()
	for _, sig := range []int{math.MinInt, -1, 0, 32, 33, 64, 1 << 32, 1<<32 + 2, math.MaxInt} {
		errors(t, "Handle, Raise", api.ErrSignal, w.Handle(sig, true), w.Handle(sig, false), w.Raise(sig))
		if n := w.Count(sig); n != 0 {
			t.Errorf("Count(%d) = %d", sig, n)
		}
	}
	image(t, w, before...)
}

// TestNotice: there is one byte to be read as long as a handled signal is pending.
func TestNotice(t *testing.T) {
	w := noticed(t)
	good(t, "Raise", w.Raise(5))
	ready(t, w, 0, api.Ready{Out: true})
	for range 3 {
		errors(t, "Raise", api.OK, w.Raise(9), w.Raise(2))
		ready(t, w, 0, api.Ready{In: true, Out: true, Reads: 1})
	}
	image(t, w, "now 0", "fd 0 wire 0 end 0", "fd 1 wire 0 end 1", "wire 0 in 01/2 in /2", "signal 2 3", "signal 9 3", "notice 0 0")
	good(t, "Handle", w.Handle(2, false))
	ready(t, w, 0, api.Ready{In: true, Out: true, Reads: 1})
	good(t, "Handle", w.Handle(9, false)) // nothing is pending any longer
	ready(t, w, 0, api.Ready{Out: true, Reads: 1})
	ready(t, w, 1, api.Ready{Out: true, Writes: 1})
	errors(t, "Handle, Raise", api.OK, w.Handle(2, true), w.Raise(2))
	ready(t, w, 0, api.Ready{In: true, Out: true, Reads: 2})
	signals(t, w, api.Count{Sig: 2, N: 1})
	ready(t, w, 0, api.Ready{Out: true, Reads: 2})
	ready(t, w, 1, api.Ready{Out: true, Writes: 2})
	signals(t, w)
	ready(t, w, 1, api.Ready{Out: true, Writes: 2})
}

// TestNoticeOfTheOtherEnd: either end of a pair may be the notice.
func TestNoticeOfTheOtherEnd(t *testing.T) {
	w := noticed(t)
	good(t, "Notice", w.Notice(1, 0))
	good(t, "Raise", w.Raise(2))
	ready(t, w, 0, api.Ready{Out: true})
	ready(t, w, 1, api.Ready{In: true, Out: true, Reads: 1})
	image(t, w, "now 0", "fd 0 wire 0 end 0", "fd 1 wire 0 end 1", "wire 0 in /2 in 01/2", "signal 2 1", "signal 9 0", "notice 0 1")
}

// TestNoticeIsMended: after each call that concerns signals the ring is as they are, whoever read or wrote there, also if the call is refused.
func TestNoticeIsMended(t *testing.T) {
	calls := map[string]func(w *world.World){
		"Handle":         func(w *world.World) { w.Handle(3, true) },
		"Handle refuses": func(w *world.World) { w.Handle(0, true) },
		"Raise":          func(w *world.World) { w.Raise(3) },
		"Raise refuses":  func(w *world.World) { w.Raise(32) },
		"Notice":         func(w *world.World) { w.Notice(0, 1) },
		"Notice refuses": func(w *world.World) { w.Notice(0, 0) },
		"Notice of none": func(w *world.World) { w.Notice(-1, 1) },
	}
	for name, call := range calls {
		t.Run(name, func(t *testing.T) {
			w := noticed(t)
			w.Raise(2)
			read(t, w, 0, 9, "\x01")
			call(w)
			read(t, w, 0, 9, "\x01")
			write(t, w, 1, "a", 1) // others may write there
			call(w)
			read(t, w, 0, 9, "a")
			signals(t, w, api.Count{Sig: 2, N: 1})
			write(t, w, 1, "bc", 2)
			writes := w.Ready(1).Writes
			call(w)
			read(t, w, 0, 9, "")
			if n := w.Ready(1).Writes; n != writes+1 {
				t.Errorf("Writes = %d, want %d", n, writes+1)
			}
		})
	}
	w := noticed(t)
	write(t, w, 1, "bc", 2)
	signals(t, w)
	read(t, w, 0, 9, "")
}

// TestNoticeOnlyThen: other calls leave the ring as it is.
func TestNoticeOnlyThen(t *testing.T) {
	w := noticed(t)
	write(t, w, 1, "a", 1)
	w.Pass(1)
	w.Pending()
	w.Count(2)
	listen(t, w, 1)
	read(t, w, 0, 9, "a")
	w.Raise(2)
	read(t, w, 0, 9, "\x01")
	w.Pass(1)
	w.Pending()
	w.Count(2)
	connect(t, w, 1, 1)
	read(t, w, 0, 9, "")
}

func TestNoticeRefuses(t *testing.T) {
	w := noticed(t)
	r, s := pipe(t, w, 4)
	a, b := pair(t, w, 4)
	fd, _ := outer(t, w, 4)
	l, _ := listen(t, w, 4)
	c, d := pair(t, w, 4)
	x, y := pair(t, w, 4)
	errors(t, "Close", api.OK, w.Close(x), w.Close(d))
	before := w.Image()
	for _, n := range append(noNumbers(), x, d, 95) {
		errors(t, "Notice of what is not open", api.ErrFd, w.Notice(n, a), w.Notice(a, n), w.Notice(n, n), w.Notice(n, y), w.Notice(c, n), w.Notice(r, n))
	}
	errors(t, "Notice of what is no pair", api.ErrKind, w.Notice(r, s), w.Notice(s, r), w.Notice(a, a), w.Notice(b, b), w.Notice(a, c), w.Notice(c, b),
		w.Notice(fd, fd), w.Notice(l, l), w.Notice(fd, l), w.Notice(l, a), w.Notice(a, 0), w.Notice(1, b), w.Notice(c, y), w.Notice(r, b))
	image(t, w, before...)
}

// TestNoticeMoves: what the former notice has stays there, and is nobody's concern.
func TestNoticeMoves(t *testing.T) {
	w := noticed(t)
	a, b := pair(t, w, 1)
	write(t, w, b, "x", 1)
	w.Raise(2)
	good(t, "Notice", w.Notice(a, b)) // its ring is not empty: nothing is written
	ready(t, w, 0, api.Ready{In: true, Out: true, Reads: 1})
	ready(t, w, a, api.Ready{In: true, Out: true, Reads: 1})
	signals(t, w, api.Count{Sig: 2, N: 1})
	image(t, w, "now 0", "fd 0 wire 0 end 0", "fd 1 wire 0 end 1", "fd 2 wire 1 end 0", "fd 3 wire 1 end 1",
		"wire 0 in 01/2 in /2", "wire 1 in /1 in /1", "signal 2 0", "signal 9 0", "notice 1 0")
	good(t, "Notice", w.Notice(0, 1))
	ready(t, w, 0, api.Ready{Out: true, Reads: 1})
	w.Raise(2)
	good(t, "Notice", w.Notice(b, a))
	read(t, w, a, 9, "")
	read(t, w, b, 9, "\x01")
	read(t, w, 0, 9, "\x01")
}

// TestNoticeIsDeclaredLate: what is pending already is noticed at once.
func TestNoticeIsDeclaredLate(t *testing.T) {
	w := world.New()
	a, b := pair(t, w, 2)
	errors(t, "Handle, Raise", api.OK, w.Handle(1, true), w.Raise(1))
	ready(t, w, a, api.Ready{Out: true})
	good(t, "Notice", w.Notice(a, b))
	ready(t, w, a, api.Ready{In: true, Out: true, Reads: 1})
	w = world.New()
	a, b = pair(t, w, 2)
	write(t, w, b, "xy", 2)
	good(t, "Notice", w.Notice(a, b)) // nothing is pending
	ready(t, w, a, api.Ready{Out: true, Reads: 1})
	ready(t, w, b, api.Ready{Out: true, Writes: 1})
}

// TestNoticeWhateverBecame: its ring goes on whether the pair's ends are shut or closed, and whoever has their descriptors.
func TestNoticeWhateverBecame(t *testing.T) {
	for name, end := range map[string]struct {
		do   func(w *world.World) api.Errno
		text string
	}{
		"shut":     {func(w *world.World) api.Errno { return max(w.Shut(0), w.Shut(1)) }, "wire 0 in shut %/2 in shut /2"},
		"closed":   {func(w *world.World) api.Errno { return w.Close(0) }, "wire 0 closed %/2 in /2"},
		"alone":    {func(w *world.World) api.Errno { return w.Close(1) }, "wire 0 in %/2 closed /2"},
		"all gone": {func(w *world.World) api.Errno { return max(w.Close(1), w.Close(0)) }, "wire 0 closed %/2 closed /2"},
	} {
		t.Run(name, func(t *testing.T) {
			w := noticed(t)
			good(t, name, end.do(w))
			outer(t, w, 1)
			for range 2 {
				w.Raise(2)
				if l := w.Image(); !slices.Contains(l, strings.Replace(end.text, "%", "01", 1)) {
					t.Errorf("Image = %q", l)
				}
				w.Signals()
				if l := w.Image(); !slices.Contains(l, strings.Replace(end.text, "%", "", 1)) || l[len(l)-1] != "notice 0 0" {
					t.Errorf("Image = %q", l)
				}
			}
		})
	}
}

// TestManyRaises: a signal that is raised often is told as often.
func TestManyRaises(t *testing.T) {
	w := noticed(t)
	for range 1000 {
		w.Raise(9)
	}
	signals(t, w, api.Count{Sig: 9, N: 1000})
	ready(t, w, 0, api.Ready{Out: true, Reads: 1})
}

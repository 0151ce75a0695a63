package sel_test

import (
	"math"
	"slices"
	"testing"

	"roundhouse/api"
	"roundhouse/fdset"
	"roundhouse/sel"
	"roundhouse/world"
)

// set is the set of some descriptors.
func set(t *testing.T, l ...int) fdset.Set {
	t.Helper()
	s, e := fdset.Of(l)
	if e != api.OK {
		t.Fatalf("Of(%v): %v", l, e)
	}
	return s
}

// only is a list of one descriptor, or of none.
func only(is bool, fd int) []int {
	if !is {
		return nil
	}
	return []int{fd}
}

// full is the set of all that a set may have.
func full() fdset.Set {
	return fdset.Set{math.MaxUint32, math.MaxUint32}
}

// good fails unless a call was answered with OK.
func good(t *testing.T, call string, e api.Errno) {
	t.Helper()
	if e != api.OK {
		t.Fatalf("%s: %v", call, e)
	}
}

// reported fails unless that is what Select answers, and Holds agrees.
func reported(t *testing.T, w *world.World, top int, read, write fdset.Set, r, s []int) {
	t.Helper()
	gotR, gotS, n, e := sel.Select(w, top, read, write)
	if e != api.OK || n != len(r)+len(s) || !slices.Equal(gotR.All(), r) || !slices.Equal(gotS.All(), s) {
		t.Errorf("Select(%d, %v, %v) = %v, %v, %d, %v, want %v, %v", top, read.All(), write.All(), gotR.All(), gotS.All(), n, e, r, s)
	}
	if sel.Holds(w, top, read, write) != (n > 0) {
		t.Errorf("Holds(%d, %v, %v) = %v", top, read.All(), write.All(), n == 0)
	}
}

// refused fails unless Select answers that error and nothing else, and Holds holds.
func refused(t *testing.T, w *world.World, top int, read, write fdset.Set, want api.Errno) {
	t.Helper()
	r, s, n, e := sel.Select(w, top, read, write)
	if e != want || n != 0 || r != (fdset.Set{}) || s != (fdset.Set{}) {
		t.Errorf("Select(%d, %v, %v) = %v, %v, %d, %v, want %v", top, read.All(), write.All(), r.All(), s.All(), n, e, want)
	}
	if !sel.Holds(w, top, read, write) {
		t.Errorf("Holds(%d, %v, %v) = false, want true", top, read.All(), write.All())
	}
}

// field is the chapter's world: a pipe 0, 1 and an outer socket 2.
func field(t *testing.T) *world.World {
	t.Helper()
	w := world.New()
	_, _, e := w.Pipe(4)
	good(t, "Pipe", e)
	_, _, e = w.Outer(4)
	good(t, "Outer", e)
	return w
}

func TestExamples(t *testing.T) {
	w := field(t)
	reported(t, w, 3, set(t, 0, 2), set(t, 1, 2), nil, []int{1, 2})
	good(t, "Close", w.Close(1))
	refused(t, w, 3, set(t, 0, 2), set(t, 1, 2), api.ErrFd)
	reported(t, w, 1, set(t, 0, 2), set(t, 1, 2), []int{0}, nil)
	refused(t, w, 65, set(t, 0, 2), set(t, 1, 2), api.ErrArg)
	if n := sel.Top(set(t, 0, 2), set(t, 1)); n != 3 {
		t.Errorf("Top = %d, want 3", n)
	}
}

// TestNilWorld: ErrNil is named before ErrArg, and that before ErrFd.
func TestNilWorld(t *testing.T) {
	for _, top := range []int{math.MinInt, -1, 0, 1, 64, 65, math.MaxInt} {
		refused(t, nil, top, fdset.Set{}, fdset.Set{}, api.ErrNil)
		refused(t, nil, top, full(), full(), api.ErrNil)
	}
}

// TestUnmadeWorld: in a World that New did not make no descriptor is open.
func TestUnmadeWorld(t *testing.T) {
	var w world.World
	reported(t, &w, 64, fdset.Set{}, fdset.Set{}, nil, nil)
	refused(t, &w, 65, fdset.Set{}, fdset.Set{}, api.ErrArg)
	refused(t, &w, 1, set(t, 0), fdset.Set{}, api.ErrFd)
}

func TestTopMayBe(t *testing.T) {
	w := field(t)
	for _, top := range []int{math.MinInt, math.MinInt32, -64, -1, 65, 66, 96, 128, 1 << 32, 1<<32 + 1, math.MaxInt} {
		refused(t, w, top, fdset.Set{}, fdset.Set{}, api.ErrArg)
		refused(t, w, top, set(t, 0), set(t, 1), api.ErrArg)
		refused(t, w, top, set(t, 5), full(), api.ErrArg)
	}
	for top := range api.SetSize + 1 {
		reported(t, w, top, fdset.Set{}, fdset.Set{}, nil, nil)
	}
}

// TestTopCuts: at each top, what is not below it is neither reported nor missed.
func TestTopCuts(t *testing.T) {
	w := world.New()
	for range api.SetSize {
		_, _, e := w.Outer(1)
		good(t, "Outer", e)
	}
	for top := range api.SetSize + 1 {
		below := full().Below(top).All()
		reported(t, w, top, full(), full(), nil, below)
		reported(t, w, top, fdset.Set{}, full(), nil, below)
		reported(t, w, top, full(), fdset.Set{}, nil, nil)
	}
	for fd := range api.SetSize {
		good(t, "Close", w.Close(fd))
		for _, x := range [][2]fdset.Set{{full(), full()}, {full(), {}}, {{}, full()}, {set(t, fd), {}}, {{}, set(t, fd)}} {
			read, write := x[0], x[1]
			refused(t, w, fd+1, read, write, api.ErrFd)
			refused(t, w, 64, read, write, api.ErrFd)
			reported(t, w, fd, read, write, nil, write.Below(fd).All())
			reported(t, w, 64, read.Without(fd), write.Without(fd), nil, write.Without(fd).All())
		}
		_, _, e := w.Outer(1) // it gets the number that is free
		good(t, "Outer", e)
	}
}

// TestBigDescriptors: those that no set has do not matter.
func TestBigDescriptors(t *testing.T) {
	w := world.New()
	for range api.MaxFd + 1 {
		_, wire, e := w.Outer(1)
		good(t, "Outer", e)
		_, e = w.Put(wire, []byte("x"))
		good(t, "Put", e)
	}
	reported(t, w, 64, full(), full(), full().All(), full().All())
	reported(t, w, 64, set(t, 0, 31, 32, 63), set(t, 30, 31, 33, 62), []int{0, 31, 32, 63}, []int{30, 31, 33, 62})
	for fd := api.SetSize; fd <= api.MaxFd; fd++ {
		good(t, "Close", w.Close(fd))
	}
	reported(t, w, 64, full(), full(), full().All(), full().All())
}

// TestReady goes through what makes a descriptor ready for a reader, and for a writer.
func TestReady(t *testing.T) {
	for name, x := range map[string]struct {
		do   func(w *world.World, wire int)
		fd   int
		r, s bool
	}{
		"a fresh pipe's first end":     {func(w *world.World, wire int) {}, 0, false, false},
		"a fresh pipe's second end":    {func(w *world.World, wire int) {}, 1, false, true},
		"a pipe with a byte":           {func(w *world.World, wire int) { w.Write(1, []byte("a")) }, 0, true, false},
		"a full pipe":                  {func(w *world.World, wire int) { w.Write(1, []byte("abcd")) }, 1, false, false},
		"a pipe that nobody writes":    {func(w *world.World, wire int) { w.Close(1) }, 0, true, true},
		"a pipe that nobody reads":     {func(w *world.World, wire int) { w.Close(0) }, 1, true, true},
		"a full one that nobody reads": {func(w *world.World, wire int) { w.Write(1, []byte("abcd")); w.Close(0) }, 1, true, true},
		"a fresh socket":               {func(w *world.World, wire int) {}, 2, false, true},
		"a socket with a byte":         {func(w *world.World, wire int) { w.Put(wire, []byte("a")) }, 2, true, true},
		"a full socket":                {func(w *world.World, wire int) { w.Write(2, []byte("abcd")) }, 2, false, false},
		"a socket whose peer is shut":  {func(w *world.World, wire int) { w.PeerShut(wire) }, 2, true, true},
		"a socket that is shut":        {func(w *world.World, wire int) { w.Shut(2) }, 2, false, false},
		"a shut socket with a byte":    {func(w *world.World, wire int) { w.Shut(2); w.Put(wire, []byte("a")) }, 2, true, false},
		"a socket without a peer":      {func(w *world.World, wire int) { w.PeerClose(wire) }, 2, true, true},
		"a shut one without a peer":    {func(w *world.World, wire int) { w.Shut(2); w.PeerClose(wire) }, 2, true, true},
		"a socket that is reset":       {func(w *world.World, wire int) { w.Reset(wire) }, 2, true, true},
		"a shut one that is reset":     {func(w *world.World, wire int) { w.Shut(2); w.Reset(wire) }, 2, true, true},
		"a listener":                   {func(w *world.World, wire int) { w.Listen(1) }, 3, false, false},
		"a listener with a connection": {func(w *world.World, wire int) { _, n, _ := w.Listen(1); w.Connect(n, 1) }, 3, true, false},
		"a connection": {func(w *world.World, wire int) {
			_, n, _ := w.Listen(1)
			w.Connect(n, 1)
			w.Accept(3)
		}, 4, false, true},
	} {
		w := field(t)
		wire, e := w.Wire(2)
		good(t, "Wire", e)
		x.do(w, wire)
		one, none := set(t, x.fd), fdset.Set{}
		r, s := only(x.r, x.fd), only(x.s, x.fd)
		t.Run(name, func(t *testing.T) {
			reported(t, w, x.fd+1, one, one, r, s)
			reported(t, w, 64, one, none, r, nil)
			reported(t, w, 64, none, one, nil, s)
			reported(t, w, x.fd, one, one, nil, nil)
		})
	}
}

// TestTop holds Top against the greatest number of both lists.
func TestTop(t *testing.T) {
	if n := sel.Top(fdset.Set{}, fdset.Set{}); n != 0 {
		t.Errorf("Top of no sets = %d, want 0", n)
	}
	for fd := range api.SetSize {
		for _, other := range []fdset.Set{{}, set(t, 0), set(t, fd), full().Below(fd)} {
			if a, b := sel.Top(set(t, fd), other), sel.Top(other, set(t, fd)); a != fd+1 || b != fd+1 {
				t.Errorf("Top of %d and %v = %d, and %d the other way round, want %d", fd, other.All(), a, b, fd+1)
			}
		}
		if n := sel.Top(set(t, fd, fd/2), full().Below(fd+1)); n != fd+1 {
			t.Errorf("Top = %d, want %d", n, fd+1)
		}
	}
}

package world_test

import (
	"math"
	"slices"
	"testing"

	"roundhouse/api"
	"roundhouse/world"
)

// good fails unless a call was answered with OK.
func good(t *testing.T, call string, e api.Errno) {
	t.Helper()
	if e != api.OK {
		t.Fatalf("%s: %v", call, e)
	}
}

func pipe(t *testing.T, w *world.World, capacity int) (r, s int) {
	t.Helper()
	r, s, e := w.Pipe(capacity)
	good(t, "Pipe", e)
	return r, s
}

func pair(t *testing.T, w *world.World, capacity int) (a, b int) {
	t.Helper()
	a, b, e := w.Pair(capacity)
	good(t, "Pair", e)
	return a, b
}

func outer(t *testing.T, w *world.World, capacity int) (fd, wire int) {
	t.Helper()
	fd, wire, e := w.Outer(capacity)
	good(t, "Outer", e)
	return fd, wire
}

func listen(t *testing.T, w *world.World, backlog int) (fd, wire int) {
	t.Helper()
	fd, wire, e := w.Listen(backlog)
	good(t, "Listen", e)
	return fd, wire
}

func connect(t *testing.T, w *world.World, wire, capacity int) int {
	t.Helper()
	n, e := w.Connect(wire, capacity)
	good(t, "Connect", e)
	return n
}

// accept fails unless the connection that is accepted gets that descriptor, and has that wire.
func accept(t *testing.T, w *world.World, fd, wantFd, wantWire int) {
	t.Helper()
	if n, wire, e := w.Accept(fd); n != wantFd || wire != wantWire || e != api.OK {
		t.Fatalf("Accept(%d) = %d, %d, %v, want %d, %d", fd, n, wire, e, wantFd, wantWire)
	}
}

// read fails unless just these bytes, or ErrAgain if there are none, are the answer.
func read(t *testing.T, w *world.World, fd, n int, want string) {
	t.Helper()
	b, end, e := w.Read(fd, n)
	if string(b) != want || end || e == api.OK != (want != "") || want == "" && e != api.ErrAgain {
		t.Fatalf("Read(%d, %d) = %q, %v, %v, want %q", fd, n, b, end, e, want)
	}
}

// ended fails unless there is nothing to be read, and never will be.
func ended(t *testing.T, w *world.World, fd int) {
	t.Helper()
	if b, end, e := w.Read(fd, 9); b != nil || !end || e != api.OK {
		t.Fatalf("Read(%d) = %q, %v, %v, want the end", fd, b, end, e)
	}
}

func write(t *testing.T, w *world.World, fd int, s string, want int) {
	t.Helper()
	if n, e := w.Write(fd, []byte(s)); n != want || e != api.OK {
		t.Fatalf("Write(%d, %q) = %d, %v, want %d", fd, s, n, e, want)
	}
}

func put(t *testing.T, w *world.World, wire int, s string, want int) {
	t.Helper()
	if n, e := w.Put(wire, []byte(s)); n != want || e != api.OK {
		t.Fatalf("Put(%d, %q) = %d, %v, want %d", wire, s, n, e, want)
	}
}

func take(t *testing.T, w *world.World, wire, n int, want string) {
	t.Helper()
	if b, e := w.Take(wire, n); string(b) != want || e != api.OK {
		t.Fatalf("Take(%d, %d) = %q, %v, want %q", wire, n, b, e, want)
	}
}

// ready fails unless an open descriptor is ready for just that.
func ready(t *testing.T, w *world.World, fd int, want api.Ready) {
	t.Helper()
	want.Open = true
	if x := w.Ready(fd); x != want {
		t.Fatalf("Ready(%d) = %+v, want %+v", fd, x, want)
	}
}

func image(t *testing.T, w *world.World, want ...string) {
	t.Helper()
	for range 2 { // to tell of it changes nothing
		if l := w.Image(); !slices.Equal(l, want) {
			t.Fatalf("Image = %q, want %q", l, want)
		}
	}
}

// errors fails unless all of these are that one.
func errors(t *testing.T, call string, want api.Errno, l ...api.Errno) {
	t.Helper()
	for i, e := range l {
		if e != want {
			t.Errorf("%s, error %d: %v, want %v", call, i, e, want)
		}
	}
}

// noNumbers are neither descriptors nor wires.
func noNumbers() []int {
	return []int{math.MinInt, math.MinInt32, -96, -2, -1, 96, 97, 128, 1000, 1001, 1 << 32, 1<<32 + 1, math.MaxInt}
}

func TestExamples(t *testing.T) {
	w := world.New()
	if fd, wire := outer(t, w, 4); fd != 0 || wire != 0 {
		t.Errorf("Outer = %d, %d", fd, wire)
	}
	put(t, w, 0, "abcdef", 4)
	ready(t, w, 0, api.Ready{In: true, Out: true, Reads: 1})
	read(t, w, 0, 3, "abc")
	read(t, w, 0, 9, "d")
	read(t, w, 0, 9, "")
	good(t, "PeerShut", w.PeerShut(0))
	ended(t, w, 0)
	write(t, w, 0, "12345", 4)
	take(t, w, 0, 2, "12")
	if n := w.Ready(0).Writes; n != 1 {
		t.Errorf("Writes = %d", n)
	}
	good(t, "PeerClose", w.PeerClose(0))
	if n, e := w.Write(0, []byte("1")); n != 0 || e != api.ErrPipe {
		t.Errorf("Write = %d, %v", n, e)
	}
	if fd, wire := listen(t, w, 1); fd != 1 || wire != 1 {
		t.Errorf("Listen = %d, %d", fd, wire)
	}
	if n := connect(t, w, 1, 9); n != 2 {
		t.Errorf("Connect = %d", n)
	}
	if n, e := w.Connect(1, 9); n != 0 || e != api.ErrAgain {
		t.Errorf("Connect = %d, %v", n, e)
	}
	accept(t, w, 1, 2, 2)
	if a, b := pair(t, w, 8); a != 3 || b != 4 {
		t.Errorf("Pair = %d, %d", a, b)
	}
	good(t, "Notice", w.Notice(3, 4))
	good(t, "Handle", w.Handle(2, true))
	errors(t, "Raise", api.OK, w.Raise(2), w.Raise(2))
	if !w.Ready(3).In {
		t.Error("the notice is not ready")
	}
	if l := w.Signals(); !slices.Equal(l, []api.Count{{Sig: 2, N: 2}}) {
		t.Errorf("Signals = %v", l)
	}
	if w.Ready(3).In {
		t.Error("the notice is ready still")
	}
}

// TestExamplesOfTheWhole: the first two of DOC.md, as far as they concern this layer.
func TestExamplesOfTheWhole(t *testing.T) {
	w := world.New()
	if r, s := pipe(t, w, 4); r != 0 || s != 1 {
		t.Errorf("Pipe = %d, %d", r, s)
	}
	write(t, w, 1, "abcdef", 4)
	read(t, w, 0, 9, "abcd")
	read(t, w, 0, 9, "")
	good(t, "Close", w.Close(1))
	ready(t, w, 0, api.Ready{In: true, Hup: true, Reads: 2})
	if x := w.Ready(1); x != (api.Ready{}) {
		t.Errorf("Ready(1) = %+v", x)
	}
}

func TestNew(t *testing.T) {
	w := world.New()
	image(t, w, "now 0")
	if l := w.Fds(); l != nil {
		t.Errorf("Fds = %v", l)
	}
	if w.Now() != 0 || w.Pending() != 0 || w.Signals() != nil {
		t.Errorf("Now = %d, Pending = %d", w.Now(), w.Pending())
	}
}

func TestNotMade(t *testing.T) {
	for name, w := range map[string]*world.World{"nil": nil, "zero": {}} {
		t.Run(name, func(t *testing.T) {
			for range 2 { // no call makes a world of it
				for _, n := range append(noNumbers(), 0, 1, 2, 31) {
					refusesAll(t, w, n)
				}
				if w.Fds() != nil || w.Signals() != nil || w.Image() != nil {
					t.Errorf("Fds = %v, Signals = %v, Image = %v, want nil", w.Fds(), w.Signals(), w.Image())
				}
				w.Pass(5)
				if w.Now() != 0 || w.Pending() != 0 {
					t.Errorf("Now = %d, Pending = %d", w.Now(), w.Pending())
				}
			}
		})
	}
}

// refusesAll fails unless each call answers ErrNil, or nothing.
func refusesAll(t *testing.T, w *world.World, n int) {
	t.Helper()
	r, s, e1 := w.Pipe(n)
	a, b, e2 := w.Pair(n)
	c, d, e3 := w.Outer(n)
	f, g, e4 := w.Listen(n)
	h, i, e5 := w.Accept(n)
	read, end, e6 := w.Read(n, n)
	j, e7 := w.Write(n, []byte("a"))
	k, e8 := w.Put(n, nil)
	taken, e9 := w.Take(n, n)
	l, e10 := w.Connect(n, n)
	m, e11 := w.Wire(n)
	errors(t, "a call", api.ErrNil, e1, e2, e3, e4, e5, e6, e7, e8, e9, e10, e11, w.Shut(n), w.Close(n),
		w.PeerShut(n), w.PeerClose(n), w.Reset(n), w.Handle(n, true), w.Handle(n, false), w.Raise(n), w.Notice(n, 0))
	for _, x := range []int{r, s, a, b, c, d, f, g, h, i, j, k, l, m, len(read), len(taken), w.Count(n)} {
		if x != 0 {
			t.Errorf("%d: a call answers %d", n, x)
		}
	}
	if end || w.Ready(n) != (api.Ready{}) {
		t.Errorf("%d: end is %v, Ready = %+v", n, end, w.Ready(n))
	}
}

func TestPass(t *testing.T) {
	w := world.New()
	for _, x := range []struct{ n, now uint64 }{
		{0, 0}, {1, 1}, {4, 5}, {0, 5}, {1 << 63, 1<<63 + 5}, {1<<63 - 7, api.Never - 1}, {1, api.Never},
		{1, api.Never}, {0, api.Never}, {1 << 63, api.Never}, {api.Never, api.Never},
	} {
		w.Pass(x.n)
		if n := w.Now(); n != x.now {
			t.Fatalf("Pass(%d), then Now = %d, want %d", x.n, n, x.now)
		}
	}
	image(t, w, "now 18446744073709551615")
	for _, n := range []uint64{api.Never - 2, api.Never - 1, api.Never} {
		w = world.New()
		w.Pass(2)
		w.Pass(n)
		if w.Now() != api.Never {
			t.Errorf("Pass(2), Pass(%d), then Now = %d", n, w.Now())
		}
	}
}

func TestWorldsAreApart(t *testing.T) {
	v, w := world.New(), world.New()
	outer(t, v, 4)
	pair(t, w, 4)
	v.Handle(3, true)
	w.Raise(3)
	v.Pass(7)
	put(t, v, 0, "ab", 2)
	write(t, w, 0, "c", 1)
	image(t, v, "now 7", "fd 0 wire 0 end 0", "wire 0 in 6162/4 out /4", "signal 3 0")
	image(t, w, "now 0", "fd 0 wire 0 end 0", "fd 1 wire 0 end 1", "wire 0 in /4 in 63/4")
}

// TestArgumentsAreRead: bytes that are written, or put, are neither changed nor kept.
func TestArgumentsAreRead(t *testing.T) {
	w := world.New()
	outer(t, w, 4)
	pair(t, w, 4)
	for name, give := range map[string]func(b []byte) (int, api.Errno){
		"Put":   func(b []byte) (int, api.Errno) { return w.Put(0, b) },
		"Write": func(b []byte) (int, api.Errno) { return w.Write(1, b) },
	} {
		b := []byte("abcdef")
		if n, e := give(b[:3:6]); n != 3 || e != api.OK || string(b) != "abcdef" {
			t.Fatalf("%s = %d, %v, and its argument is %q", name, n, e, b)
		}
		copy(b, "------")
	}
	read(t, w, 0, 9, "abc")
	read(t, w, 2, 9, "abc")
}

// TestSlicesAreNew writes into all that is answered: neither the world nor another answer is changed.
func TestSlicesAreNew(t *testing.T) {
	w := world.New()
	outer(t, w, 8)
	outer(t, w, 8)
	put(t, w, 0, "abcdef", 6)
	write(t, w, 0, "123456", 6)
	first, _, _ := w.Read(0, 2)
	taken, _ := w.Take(0, 2)
	fds, lines := w.Fds(), w.Image()
	w.Handle(4, true)
	w.Raise(4)
	signals := w.Signals()
	clear(first)
	clear(taken)
	clear(fds)
	clear(lines)
	clear(signals)
	_, _, _ = append(first, "---"...), append(taken, "---"...), append(fds[:1], 77, 78)
	if l := w.Fds(); !slices.Equal(l, []int{0, 1}) {
		t.Errorf("Fds = %v", l)
	}
	image(t, w, "now 0", "fd 0 wire 0 end 0", "fd 1 wire 1 end 0", "wire 0 in 63646566/8 out 33343536/8", "wire 1 in /8 out /8", "signal 4 0")
	w.Raise(4)
	if l := w.Signals(); !slices.Equal(l, []api.Count{{Sig: 4, N: 1}}) {
		t.Errorf("Signals = %v", l)
	}
	read(t, w, 0, 9, "cdef")
	take(t, w, 0, 9, "3456")
	if string(first) != "\x00\x00" || string(taken) != "\x00\x00" || !slices.Equal(fds, []int{0, 0}) {
		t.Errorf("later %q, %q, %v", first, taken, fds)
	}
}

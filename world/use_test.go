package world_test

import (
	"math"
	"testing"

	"roundhouse/api"
	"roundhouse/world"
)

// answer is what a call for a descriptor or a wire answers.
type answer struct {
	b   string
	n   int
	end bool
	e   api.Errno
}

func reads(w *world.World, fd, n int) answer {
	b, end, e := w.Read(fd, n)
	return answer{b: string(b), end: end, e: e}
}

func writes(w *world.World, fd int, s string) answer {
	n, e := w.Write(fd, []byte(s))
	return answer{n: n, e: e}
}

func puts(w *world.World, wire int, s string) answer {
	n, e := w.Put(wire, []byte(s))
	return answer{n: n, e: e}
}

func takes(w *world.World, wire, n int) answer {
	b, e := w.Take(wire, n)
	return answer{b: string(b), e: e}
}

// answers fails unless these are the answers, in order.
func answers(t *testing.T, got []answer, want ...answer) {
	t.Helper()
	if len(got) != len(want) {
		t.Fatalf("%d answers, want %d", len(got), len(want))
	}
	for i := range got {
		if got[i] != want[i] {
			t.Errorf("answer %d is %+v, want %+v", i, got[i], want[i])
		}
	}
}

// no is what an error is answered with.
func no(e api.Errno) answer { return answer{e: e} }

// TestNotOpen: a descriptor that is not open is refused, whatever else is wrong, and nothing changes.
func TestNotOpen(t *testing.T) {
	w := world.New()
	outer(t, w, 4)
	_, b := pair(t, w, 4)
	r, s := pipe(t, w, 4)
	write(t, w, s, "a", 1)
	for _, fd := range []int{b, r, s} {
		good(t, "Close", w.Close(fd))
	}
	before := w.Image()
	for _, fd := range append(noNumbers(), b, r, s, 5, 95) {
		n, e := w.Wire(fd)
		answers(t, []answer{reads(w, fd, 1), reads(w, fd, 0), writes(w, fd, "a"), writes(w, fd, ""), {n: n, e: e}},
			no(api.ErrFd), no(api.ErrFd), no(api.ErrFd), no(api.ErrFd), no(api.ErrFd))
		errors(t, "Shut, Close", api.ErrFd, w.Shut(fd), w.Close(fd))
		if x := w.Ready(fd); x != (api.Ready{}) {
			t.Errorf("Ready(%d) = %+v", fd, x)
		}
	}
	image(t, w, before...)
}

// TestKinds: what an end can't do is refused, whatever else is wrong.
func TestKinds(t *testing.T) {
	w := world.New()
	r, s := pipe(t, w, 4)
	l, wire := listen(t, w, 4)
	connect(t, w, wire, 4)
	before := w.Image()
	for _, fd := range []int{s, l} {
		answers(t, []answer{reads(w, fd, 1), reads(w, fd, 0), reads(w, fd, -1)}, no(api.ErrKind), no(api.ErrKind), no(api.ErrKind))
	}
	for _, fd := range []int{r, l} {
		answers(t, []answer{writes(w, fd, "a"), writes(w, fd, "")}, no(api.ErrKind), no(api.ErrKind))
	}
	errors(t, "Shut", api.ErrKind, w.Shut(r), w.Shut(s), w.Shut(l))
	image(t, w, before...)
	good(t, "Close", w.Close(r))
	errors(t, "Shut", api.ErrKind, w.Shut(s), w.Shut(l))
	answers(t, []answer{reads(w, s, 1)}, no(api.ErrKind))
}

func TestRead(t *testing.T) {
	w := world.New()
	fd, wire := outer(t, w, 6)
	for _, n := range []int{math.MinInt, -1, 0} {
		answers(t, []answer{reads(w, fd, n)}, no(api.ErrArg))
	}
	answers(t, []answer{reads(w, fd, 1)}, no(api.ErrAgain))
	put(t, w, wire, "abcdef", 6)
	answers(t, []answer{reads(w, fd, 0), reads(w, fd, 1), reads(w, fd, 2)}, no(api.ErrArg), answer{b: "a"}, answer{b: "bc"})
	put(t, w, wire, "ghij", 3)
	answers(t, []answer{reads(w, fd, 5), reads(w, fd, math.MaxInt), reads(w, fd, 1)}, answer{b: "defgh"}, answer{b: "i"}, no(api.ErrAgain))
	put(t, w, wire, "k", 1)
	good(t, "PeerShut", w.PeerShut(wire))
	answers(t, []answer{reads(w, fd, -1), reads(w, fd, 9), reads(w, fd, 1), reads(w, fd, 1), reads(w, fd, 0)},
		no(api.ErrArg), answer{b: "k"}, answer{end: true}, answer{end: true}, no(api.ErrArg))
	good(t, "Reset", w.Reset(wire))
	answers(t, []answer{reads(w, fd, 0), reads(w, fd, 1)}, no(api.ErrArg), no(api.ErrReset))
}

// TestReadToTheEnd: whatever ends the writing, what was written before is read first.
func TestReadToTheEnd(t *testing.T) {
	for name, stop := range map[string]func(w *world.World) api.Errno{
		"Shut":           func(w *world.World) api.Errno { return w.Shut(1) },
		"Close":          func(w *world.World) api.Errno { return w.Close(1) },
		"Shut and Close": func(w *world.World) api.Errno { return max(w.Shut(1), w.Close(1)) },
	} {
		t.Run(name, func(t *testing.T) {
			for _, text := range []string{"", "a", "abcd"} {
				w := world.New()
				pair(t, w, 4)
				write(t, w, 1, text, len(text))
				good(t, name, stop(w))
				for i := range text {
					read(t, w, 0, 1, text[i:i+1])
				}
				ended(t, w, 0)
				ended(t, w, 0)
			}
		})
	}
	w := world.New()
	r, s := pipe(t, w, 4)
	write(t, w, s, "ab", 2)
	good(t, "Close", w.Close(s))
	read(t, w, r, 9, "ab")
	ended(t, w, r)
}

func TestWrite(t *testing.T) {
	w := world.New()
	a, b := pair(t, w, 4)
	answers(t, []answer{writes(w, a, ""), writes(w, a, "abc"), writes(w, a, "def"), writes(w, a, "gh"), writes(w, a, "")},
		answer{}, answer{n: 3}, answer{n: 1}, no(api.ErrAgain), answer{})
	read(t, w, b, 2, "ab")
	answers(t, []answer{writes(w, a, "123"), writes(w, a, "4")}, answer{n: 2}, no(api.ErrAgain))
	good(t, "Shut", w.Shut(b)) // it may still be written to
	read(t, w, b, 1, "c")
	write(t, w, a, "5", 1)
	good(t, "Shut", w.Shut(a))
	answers(t, []answer{writes(w, a, "6"), writes(w, a, "")}, no(api.ErrPipe), no(api.ErrPipe))
	read(t, w, b, 9, "d125")
	answers(t, []answer{writes(w, a, "6")}, no(api.ErrPipe))
}

// TestWriteToNobody: if there is no reader any more nothing is written, be there room or not.
func TestWriteToNobody(t *testing.T) {
	for _, text := range []string{"", "ab", "abcd"} {
		w := world.New()
		a, b := pair(t, w, 4)
		r, s := pipe(t, w, 4)
		fd, wire := outer(t, w, 4)
		for _, x := range []int{a, s, fd} {
			write(t, w, x, text, len(text))
		}
		errors(t, "Close", api.OK, w.Close(b), w.Close(r), w.PeerClose(wire))
		for _, x := range []int{a, s, fd} {
			answers(t, []answer{writes(w, x, "e"), writes(w, x, "")}, no(api.ErrPipe), no(api.ErrPipe))
		}
	}
}

// TestResetIsFirst: of several errors of a wire the one of its reset is told.
func TestResetIsFirst(t *testing.T) {
	w := world.New()
	fd, wire := outer(t, w, 2)
	write(t, w, fd, "ab", 2)
	put(t, w, wire, "1", 1)
	errors(t, "Shut, PeerShut, Reset", api.OK, w.Shut(fd), w.PeerShut(wire), w.Reset(wire))
	answers(t, []answer{reads(w, fd, 1), writes(w, fd, "c"), writes(w, fd, ""), puts(w, wire, "2"), puts(w, wire, ""), takes(w, wire, 1), takes(w, wire, 0), takes(w, wire, -1)},
		no(api.ErrReset), no(api.ErrReset), no(api.ErrReset), no(api.ErrReset), no(api.ErrReset), no(api.ErrReset), no(api.ErrReset), no(api.ErrArg))
	image(t, w, "now 0", "fd 0 wire 0 end 0", "wire 0 in shut /2 out shut /2 reset")
	good(t, "PeerClose", w.PeerClose(wire))
	answers(t, []answer{reads(w, fd, 1), writes(w, fd, "c")}, no(api.ErrReset), no(api.ErrReset))
}

func TestShut(t *testing.T) {
	w := world.New()
	a, b := pair(t, w, 2)
	errors(t, "Shut", api.OK, w.Shut(a))
	ready(t, w, a, api.Ready{})
	ready(t, w, b, api.Ready{In: true, Out: true, Reads: 1})
	errors(t, "Shut again", api.OK, w.Shut(a), w.Shut(a))
	ready(t, w, b, api.Ready{In: true, Out: true, Reads: 1})
	write(t, w, b, "xy", 2)
	ready(t, w, a, api.Ready{In: true, Reads: 1})
	read(t, w, a, 1, "x")
	ready(t, w, b, api.Ready{In: true, Out: true, Reads: 1, Writes: 1})
	good(t, "Close", w.Close(b))
	ready(t, w, a, api.Ready{In: true, Hup: true, Reads: 2, Writes: 1})
	fd, wire := outer(t, w, 2)
	good(t, "Shut", w.Shut(fd))
	image(t, w, "now 0", "fd 0 wire 0 end 0", "fd 1 wire 1 end 0", "wire 0 in shut 79/2 closed /2", "wire 1 in shut /2 out /2")
	put(t, w, wire, "a", 1)
	read(t, w, fd, 1, "a")
}

// TestCloseWhatWasShut: the other end knew already that nobody writes, but not that nobody reads.
func TestCloseWhatWasShut(t *testing.T) {
	w := world.New()
	a, b := pair(t, w, 1)
	errors(t, "Shut, Close", api.OK, w.Shut(a), w.Close(a))
	ready(t, w, b, api.Ready{In: true, Out: true, Hup: true, Reads: 1, Writes: 1})
	a, c := pair(t, w, 1)
	good(t, "Close", w.Close(a))
	ready(t, w, c, api.Ready{In: true, Out: true, Hup: true, Reads: 1, Writes: 1})
}

func TestCloseListener(t *testing.T) {
	w := world.New()
	fd, wire := listen(t, w, 3)
	for range 3 {
		connect(t, w, wire, 2)
	}
	accept(t, w, fd, 1, 1)
	errors(t, "PeerShut", api.OK, w.PeerShut(3))
	put(t, w, 2, "a", 1)
	good(t, "Close", w.Close(fd))
	image(t, w, "now 0", "fd 1 wire 1 end 0", "wire 0 listen 3", "wire 1 in /2 out /2", "wire 2 closed 61/2 out /2", "wire 3 closed /2 out shut /2")
	answers(t, []answer{puts(w, 1, "b"), puts(w, 2, "b"), puts(w, 2, ""), puts(w, 3, "b")}, answer{n: 1}, no(api.ErrPipe), no(api.ErrPipe), no(api.ErrPipe))
	if n, e := w.Connect(wire, 1); n != 0 || e != api.ErrWire {
		t.Errorf("Connect = %d, %v, want ErrWire", n, e)
	}
	if fd, wire := listen(t, w, 1); fd != 0 || wire != 4 {
		t.Errorf("Listen = %d, %d", fd, wire)
	}
	if n, e := w.Connect(wire, 1); n != 0 || e != api.ErrWire {
		t.Errorf("Connect to the first listener = %d, %v, want ErrWire", n, e)
	}
	connect(t, w, 4, 1)
	accept(t, w, 0, 2, 5)
}

// TestAnew: a descriptor that is opened anew has nothing of what it was.
func TestAnew(t *testing.T) {
	w := world.New()
	a, b := pair(t, w, 4)
	write(t, w, a, "a", 1)
	write(t, w, b, "b", 1)
	errors(t, "Shut, Close", api.OK, w.Shut(a), w.Close(a))
	fd, wire := outer(t, w, 3)
	if fd != a || wire != 1 {
		t.Fatalf("Outer = %d, %d", fd, wire)
	}
	ready(t, w, fd, api.Ready{Out: true})
	read(t, w, b, 9, "a")
	write(t, w, fd, "cd", 2)
	ready(t, w, b, api.Ready{In: true, Out: true, Hup: true, Reads: 2, Writes: 1})
	take(t, w, wire, 9, "cd")
	image(t, w, "now 0", "fd 0 wire 1 end 0", "fd 1 wire 0 end 1", "wire 0 closed shut 62/4 in /4", "wire 1 in /3 out /3")
}

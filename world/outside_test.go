package world_test

import (
	"math"
	"strings"
	"testing"

	"roundhouse/api"
	"roundhouse/world"
)

// TestNotOutside: a wire whose second end is not outside is refused, whatever else is wrong, and nothing changes.
func TestNotOutside(t *testing.T) {
	w := world.New()
	pipe(t, w, 4)
	pair(t, w, 4)
	listen(t, w, 4)
	fd, _ := outer(t, w, 4)
	connect(t, w, 2, 4)
	put(t, w, 3, "ab", 2)
	write(t, w, fd, "12", 2)
	errors(t, "PeerClose, Close", api.OK, w.PeerClose(3), w.PeerClose(4), w.Close(1))
	before := w.Image()
	for _, wire := range append(noNumbers(), 0, 1, 2, 3, 4, 5, 6) {
		answers(t, []answer{puts(w, wire, "a"), puts(w, wire, ""), takes(w, wire, 1), takes(w, wire, -1)},
			no(api.ErrWire), no(api.ErrWire), no(api.ErrWire), no(api.ErrWire))
		errors(t, "PeerShut, PeerClose, Reset", api.ErrWire, w.PeerShut(wire), w.PeerClose(wire), w.Reset(wire))
	}
	image(t, w, before...)
}

// TestOutsideStays: a wire whose first end waits, or is closed, is still one whose second end is outside.
func TestOutsideStays(t *testing.T) {
	w := world.New()
	fd, wire := outer(t, w, 4)
	write(t, w, fd, "ab", 2)
	good(t, "Close", w.Close(fd))
	take(t, w, wire, 1, "a")
	errors(t, "PeerShut, Reset, PeerClose", api.OK, w.PeerShut(wire), w.Reset(wire), w.PeerShut(wire), w.Reset(wire), w.PeerClose(wire))
	errors(t, "PeerClose again", api.ErrWire, w.PeerClose(wire))
	image(t, w, "now 0", "wire 0 closed /4 closed shut /4 reset")
}

func TestPut(t *testing.T) {
	w := world.New()
	fd, wire := outer(t, w, 4)
	answers(t, []answer{puts(w, wire, ""), puts(w, wire, "ab"), puts(w, wire, "cdef"), puts(w, wire, "gh"), puts(w, wire, "")},
		answer{}, answer{n: 2}, answer{n: 2}, answer{}, answer{})
	ready(t, w, fd, api.Ready{In: true, Out: true, Reads: 2})
	read(t, w, fd, 3, "abc")
	put(t, w, wire, "ijkl", 3)
	good(t, "PeerShut", w.PeerShut(wire))
	answers(t, []answer{puts(w, wire, "m"), puts(w, wire, "")}, no(api.ErrPipe), no(api.ErrPipe))
	read(t, w, fd, 9, "dijk")
	fd, wire = outer(t, w, 4)
	good(t, "Shut", w.Shut(fd)) // it still reads
	put(t, w, wire, "n", 1)
	good(t, "Close", w.Close(fd))
	answers(t, []answer{puts(w, wire, "m"), puts(w, wire, "")}, no(api.ErrPipe), no(api.ErrPipe))
	good(t, "Reset", w.Reset(wire))
	answers(t, []answer{puts(w, wire, "m"), puts(w, wire, "")}, no(api.ErrReset), no(api.ErrReset))
}

func TestTake(t *testing.T) {
	w := world.New()
	fd, wire := outer(t, w, 4)
	for _, n := range []int{math.MinInt, -2, -1} {
		answers(t, []answer{takes(w, wire, n)}, no(api.ErrArg))
	}
	answers(t, []answer{takes(w, wire, 0), takes(w, wire, 5)}, answer{}, answer{})
	ready(t, w, fd, api.Ready{Out: true})
	write(t, w, fd, "abcd", 4)
	answers(t, []answer{takes(w, wire, 0)}, answer{})
	ready(t, w, fd, api.Ready{})
	answers(t, []answer{takes(w, wire, 1), takes(w, wire, 2)}, answer{b: "a"}, answer{b: "bc"})
	ready(t, w, fd, api.Ready{Out: true, Writes: 2})
	write(t, w, fd, "efgh", 3)
	errors(t, "PeerShut, Shut, Close", api.OK, w.PeerShut(wire), w.Shut(fd), w.Close(fd)) // what was written is there
	answers(t, []answer{takes(w, wire, math.MaxInt), takes(w, wire, 1)}, answer{b: "defg"}, answer{})
}

func TestPeerShut(t *testing.T) {
	w := world.New()
	fd, wire := outer(t, w, 4)
	for range 3 { // only the first time it is news
		good(t, "PeerShut", w.PeerShut(wire))
		ready(t, w, fd, api.Ready{In: true, Out: true, Reads: 1})
	}
	ended(t, w, fd)
	write(t, w, fd, "ab", 2)
	take(t, w, wire, 2, "ab")
	good(t, "PeerClose", w.PeerClose(wire))
	ready(t, w, fd, api.Ready{In: true, Out: true, Hup: true, Reads: 1, Writes: 2})
}

func TestPeerClose(t *testing.T) {
	w := world.New()
	fd, wire := outer(t, w, 2)
	put(t, w, wire, "ab", 2)
	write(t, w, fd, "12", 2)
	good(t, "PeerClose", w.PeerClose(wire))
	ready(t, w, fd, api.Ready{In: true, Out: true, Hup: true, Reads: 2, Writes: 1})
	image(t, w, "now 0", "fd 0 wire 0 end 0", "wire 0 in 6162/2 closed 3132/2")
	read(t, w, fd, 9, "ab")
	ended(t, w, fd)
	answers(t, []answer{writes(w, fd, "a")}, no(api.ErrPipe))
	good(t, "Shut", w.Shut(fd))
	ready(t, w, fd, api.Ready{In: true, Hup: true, Reads: 2, Writes: 1})
	good(t, "Close", w.Close(fd))
	image(t, w, "now 0", "wire 0 closed shut /2 closed 3132/2")
}

func TestReset(t *testing.T) {
	w := world.New()
	fd, wire := outer(t, w, 4)
	put(t, w, wire, "ab", 2)
	write(t, w, fd, "1234", 4)
	for range 3 { // only the first time it is news
		good(t, "Reset", w.Reset(wire))
		ready(t, w, fd, api.Ready{In: true, Out: true, Err: true, Reads: 2, Writes: 1})
	}
	image(t, w, "now 0", "fd 0 wire 0 end 0", "wire 0 in /4 out /4 reset")
	good(t, "PeerShut", w.PeerShut(wire))
	good(t, "PeerClose", w.PeerClose(wire))
	ready(t, w, fd, api.Ready{In: true, Out: true, Hup: true, Err: true, Reads: 3, Writes: 2})
	good(t, "Shut", w.Shut(fd))
	ready(t, w, fd, api.Ready{In: true, Hup: true, Err: true, Reads: 3, Writes: 2})
	good(t, "Close", w.Close(fd))
	image(t, w, "now 0", "wire 0 closed shut /4 closed shut /4 reset")
}

func TestConnect(t *testing.T) {
	w := world.New()
	fd, wire := listen(t, w, 2)
	for i := 1; i <= 2; i++ {
		if n := connect(t, w, wire, i); n != i {
			t.Fatalf("Connect = %d, want %d", n, i)
		}
	}
	before := w.Image()
	if n, e := w.Connect(wire, 1); n != 0 || e != api.ErrAgain {
		t.Errorf("Connect = %d, %v, want ErrAgain", n, e)
	}
	for _, capacity := range []int{math.MinInt, -1, 0, api.MaxRing + 1, 1 << 32, 1<<32 + 1, math.MaxInt} {
		if n, e := w.Connect(wire, capacity); n != 0 || e != api.ErrArg {
			t.Errorf("Connect of capacity %d = %d, %v, want ErrArg", capacity, n, e)
		}
	}
	image(t, w, before...)
	ready(t, w, fd, api.Ready{In: true, Reads: 2})
	accept(t, w, fd, 1, 1)
	connect(t, w, wire, api.MaxRing)
	accept(t, w, fd, 2, 2)
	accept(t, w, fd, 3, 3)
	put(t, w, 3, strings.Repeat("x", api.MaxRing+1), api.MaxRing)
	write(t, w, 3, strings.Repeat("y", api.MaxRing+1), api.MaxRing)
	put(t, w, 2, "abc", 2)
}

// TestConnectRefuses: only an open listener's wire has connections, whatever else is wrong.
func TestConnectRefuses(t *testing.T) {
	w := world.New()
	pipe(t, w, 4)
	pair(t, w, 4)
	outer(t, w, 4)
	fd, wire := listen(t, w, 1)
	connect(t, w, wire, 4)
	good(t, "Close", w.Close(fd))
	before := w.Image()
	for _, n := range append(noNumbers(), 0, 1, 2, wire, 4, 5) {
		for _, capacity := range []int{1, 0, -1, api.MaxRing + 1} {
			if n, e := w.Connect(n, capacity); n != 0 || e != api.ErrWire {
				t.Errorf("Connect(%d, %d) = %d, %v, want ErrWire", n, capacity, n, e)
			}
		}
	}
	image(t, w, before...)
}

// TestConnectInOrder: of several errors the one that is named first is told.
func TestConnectInOrder(t *testing.T) {
	w := world.New()
	fd, wire := listen(t, w, 2)
	for range api.MaxWires - 3 {
		x, _ := outer(t, w, 1)
		good(t, "Close", w.Close(x))
	}
	connect(t, w, wire, 1)
	connect(t, w, wire, 1)
	errorOf := func(capacity int) api.Errno {
		_, e := w.Connect(wire, capacity)
		return e
	}
	errors(t, "Connect", api.ErrArg, errorOf(0), errorOf(api.MaxRing+1))
	errors(t, "Connect", api.ErrAgain, errorOf(1))
	accept(t, w, fd, 1, api.MaxWires-2)
	errors(t, "Connect", api.ErrMany, errorOf(1), errorOf(api.MaxRing))
	errors(t, "Connect", api.ErrArg, errorOf(0))
	good(t, "Close", w.Close(fd))
	errors(t, "Connect", api.ErrWire, errorOf(1), errorOf(0))
}

// TestBacklog: as many connections wait as the backlog says, and no more, the greatest one as well.
func TestBacklog(t *testing.T) {
	for _, backlog := range []int{1, 2, 5, api.MaxBacklog} {
		w := world.New()
		fd, wire := listen(t, w, backlog)
		for range backlog {
			connect(t, w, wire, 1)
		}
		for i := range backlog {
			if _, e := w.Connect(wire, 1); e != api.ErrAgain {
				t.Fatalf("backlog %d: Connect: %v, want ErrAgain", backlog, e)
			}
			accept(t, w, fd, 1+i, 1+i)
			connect(t, w, wire, 1)
		}
	}
}

// TestBeforeAccept: what comes to pass with a connection that waits is there when it is accepted.
func TestBeforeAccept(t *testing.T) {
	w := world.New()
	fd, wire := listen(t, w, 5)
	for range 5 {
		connect(t, w, wire, 4)
	}
	put(t, w, 1, "ab", 2)
	put(t, w, 1, "cdef", 2)
	take(t, w, 1, 3, "")
	errors(t, "while they wait", api.OK, w.PeerShut(2), w.PeerClose(3), w.Reset(4))
	image(t, w, "now 0", "fd 0 wire 0 end 2", "wire 0 listen 5 1 2 3 4 5", "wire 1 none 61626364/4 out /4",
		"wire 2 none /4 out shut /4", "wire 3 none /4 closed /4", "wire 4 none /4 out /4 reset", "wire 5 none /4 out /4")
	for i := 1; i <= 5; i++ {
		accept(t, w, fd, i, i)
	}
	ready(t, w, fd, api.Ready{Reads: 5})
	ready(t, w, 1, api.Ready{In: true, Out: true, Reads: 2})
	ready(t, w, 2, api.Ready{In: true, Out: true, Reads: 1})
	ready(t, w, 3, api.Ready{In: true, Out: true, Hup: true, Reads: 1, Writes: 1})
	ready(t, w, 4, api.Ready{In: true, Out: true, Err: true, Reads: 1, Writes: 1})
	ready(t, w, 5, api.Ready{Out: true})
	read(t, w, 1, 9, "abcd")
	ended(t, w, 2)
	ended(t, w, 3)
}

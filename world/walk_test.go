package world_test

import (
	"fmt"
	"maps"
	"slices"
	"testing"

	"roundhouse/api"
	"roundhouse/world"
)

// noise gives numbers that look random, and are the same in each run.
type noise uint64

func (z *noise) below(n int) int {
	*z = *z*6364136223846793005 + 1442695040888963407
	return int(uint64(*z>>33) % uint64(n))
}

// walk is a World and a plain one, to which the same is done.
type walk struct {
	noise
	w    *world.World
	p    *plain
	next byte
}

// fd is mostly an open descriptor.
func (k *walk) fd() int {
	l := k.w.Fds()
	if len(l) == 0 || k.below(12) == 0 {
		return k.below(api.MaxFd+5) - 2
	}
	return l[k.below(len(l))]
}

// wire is mostly one of the last ones.
func (k *walk) wire() int {
	return len(k.p.lines) - k.below(min(len(k.p.lines), 14)+2)
}

// capacity is mostly a small one that is good.
func (k *walk) capacity() int {
	if k.below(12) == 0 {
		return []int{-1, 0, api.MaxBacklog, api.MaxBacklog + 1, api.MaxRing, api.MaxRing + 1}[k.below(6)]
	}
	return 1 + k.below(5)
}

// bytes are some that tell where they belong.
func (k *walk) bytes() string {
	b := make([]byte, k.below(7))
	for i := range b {
		b[i] = k.next
		k.next++
	}
	return string(b)
}

// step does one call to both, and answers what both answered.
func (k *walk) step() (call, got, want string) {
	switch k.below(12) {
	case 0:
		return k.make()
	case 1:
		return k.end()
	case 2, 3, 4:
		return k.outside()
	case 5, 6:
		return k.signal()
	}
	return k.use()
}

func said(l ...any) string { return fmt.Sprint(l...) }

func (k *walk) make() (call, got, want string) {
	n := k.capacity()
	switch k.below(4) {
	case 0:
		r, s, e := k.w.Pipe(n)
		fds, f := k.p.lay("pipe", n, api.MaxRing, 2)
		return "Pipe", said([]int{r, s}, e), said(two(fds), f)
	case 1:
		a, b, e := k.w.Pair(n)
		fds, f := k.p.lay("pair", n, api.MaxRing, 2)
		return "Pair", said([]int{a, b}, e), said(two(fds), f)
	case 2:
		fd, wire, e := k.w.Outer(n)
		fds, f := k.p.lay("outer", n, api.MaxRing, 1)
		return "Outer", said([]int{fd, wire}, e), said(two(k.withWire(fds)), f)
	}
	fd, wire, e := k.w.Listen(n)
	fds, f := k.p.lay("listen", n, api.MaxBacklog, 1)
	return "Listen", said([]int{fd, wire}, e), said(two(k.withWire(fds)), f)
}

// withWire is a descriptor that was made and its wire.
func (k *walk) withWire(fds []int) []int {
	if fds == nil {
		return nil
	}
	return append(fds, len(k.p.lines)-1)
}

// two is two numbers, also if there are none.
func two(l []int) []int { return append(l, 0, 0)[:2] }

func (k *walk) end() (call, got, want string) {
	switch k.below(6) {
	case 0, 1:
		fd := k.fd()
		return said("Close ", fd), said(k.w.Close(fd)), said(k.p.close(fd))
	case 2:
		wire := k.wire()
		return said("PeerClose ", wire), said(k.w.PeerClose(wire)), said(k.p.peer(wire, "closed"))
	case 3:
		wire := k.wire()
		return said("Reset ", wire), said(k.w.Reset(wire)), said(k.p.peer(wire, "reset"))
	case 4:
		wire := k.wire()
		return said("PeerShut ", wire), said(k.w.PeerShut(wire)), said(k.p.peer(wire, "shut"))
	}
	fd := k.fd()
	return said("Shut ", fd), said(k.w.Shut(fd)), said(k.p.shut(fd))
}

func (k *walk) outside() (call, got, want string) {
	wire := k.wire()
	switch k.below(3) {
	case 0:
		b := k.bytes()
		n, e := k.w.Put(wire, []byte(b))
		m, f := k.p.put(wire, b)
		return said("Put ", wire), said(n, e), said(m, f)
	case 1:
		n := k.below(8) - 1
		b, e := k.w.Take(wire, n)
		s, f := k.p.take(wire, n)
		return said("Take ", wire, n), said(string(b), e), said(s, f)
	}
	capacity := k.capacity()
	n, e := k.w.Connect(wire, capacity)
	m, f := k.p.connect(wire, capacity)
	return said("Connect ", wire, capacity), said(n, e), said(m, f)
}

func (k *walk) signal() (call, got, want string) {
	sig := []int{0, 1, 2, 2, 7, 31, 32}[k.below(7)]
	switch k.below(8) {
	case 0, 1:
		on := k.below(2) == 0
		return said("Handle ", sig, on), said(k.w.Handle(sig, on)), said(k.p.handle(sig, on))
	case 2, 3, 4:
		return said("Raise ", sig), said(k.w.Raise(sig)), said(k.p.raise(sig))
	case 5:
		return "Signals", said(k.w.Signals()), said(k.p.signals())
	case 6:
		a := k.fd()
		b := []int{k.fd(), a - 1, a, a + 1}[k.below(4)]
		return said("Notice ", a, b), said(k.w.Notice(a, b)), said(k.p.declare(a, b))
	}
	n := uint64(k.below(9))
	k.w.Pass(n)
	k.p.now += n
	return said("Pass ", n), "", ""
}

func (k *walk) use() (call, got, want string) {
	fd := k.fd()
	switch k.below(5) {
	case 0, 1:
		n := k.below(8) - 1
		b, end, e := k.w.Read(fd, n)
		s, is, f := k.p.read(fd, n)
		return said("Read ", fd, n), said(string(b), end, e), said(s, is, f)
	case 2, 3:
		b := k.bytes()
		n, e := k.w.Write(fd, []byte(b))
		m, f := k.p.write(fd, b)
		return said("Write ", fd), said(n, e), said(m, f)
	}
	n, wire, e := k.w.Accept(fd)
	m, other, f := k.p.accept(fd)
	return said("Accept ", fd), said(n, wire, e), said(m, other, f)
}

// holds fails unless the World is what the plain one is, by every call that tells of it.
func (k *walk) holds(t *testing.T, step int, call string) {
	t.Helper()
	if got, want := k.w.Image(), k.p.image(); !slices.Equal(got, want) {
		t.Fatalf("step %d, %s: Image = %q, want %q", step, call, got, want)
	}
	if got, want := k.w.Fds(), slices.Sorted(maps.Keys(k.p.fds)); !slices.Equal(got, want) {
		t.Fatalf("step %d, %s: Fds = %v, want %v", step, call, got, want)
	}
	for fd, x := range k.p.fds {
		if got, want := k.w.Ready(fd), x.ready(); got != want {
			t.Fatalf("step %d, %s: Ready(%d) = %+v, want %+v", step, call, fd, got, want)
		}
		if n, e := k.w.Wire(fd); n != k.p.number(x.l) || e != api.OK {
			t.Fatalf("step %d, %s: Wire(%d) = %d, %v", step, call, fd, n, e)
		}
	}
	if k.w.Pending() != k.p.pending() || k.w.Count(2) != k.p.handled[2] || k.w.Now() != k.p.now {
		t.Fatalf("step %d, %s: Pending = %d, Count = %d, Now = %d", step, call, k.w.Pending(), k.w.Count(2), k.w.Now())
	}
}

// TestLongWalk does thousands of calls to a World and to a plain one: both answer the same, and are the same after each call.
func TestLongWalk(t *testing.T) {
	for seed := range 60 {
		k := &walk{noise: noise(seed * 7919), w: world.New(), p: newPlain()}
		for step := range 500 {
			call, got, want := k.step()
			if got != want {
				t.Fatalf("seed %d, step %d, %s = %s, want %s", seed, step, call, got, want)
			}
			k.holds(t, step, call)
		}
	}
}

// state is what an open descriptor is ready for, and which wire it has.
type state struct {
	ready api.Ready
	wire  int
}

func states(w *world.World) map[int]state {
	m := map[int]state{}
	for _, fd := range w.Fds() {
		wire, _ := w.Wire(fd)
		m[fd] = state{w.Ready(fd), wire}
	}
	return m
}

// TestRises: whatever is called, what becomes ready has risen, and nothing falls.
func TestRises(t *testing.T) {
	rose := 0
	for seed := range 40 {
		k := &walk{noise: noise(seed*104729 + 1), w: world.New(), p: newPlain()}
		before := states(k.w)
		for range 500 {
			call, _, _ := k.step()
			after := states(k.w)
			for fd, x := range after {
				y, is := before[fd]
				if !is || x.wire != y.wire {
					continue
				}
				becomes := x.ready.In && !y.ready.In || x.ready.Out && !y.ready.Out
				if x.ready.In && !y.ready.In && x.ready.Reads <= y.ready.Reads || x.ready.Out && !y.ready.Out && x.ready.Writes <= y.ready.Writes ||
					x.ready.Reads < y.ready.Reads || x.ready.Writes < y.ready.Writes {
					t.Fatalf("%s: Ready(%d) was %+v, is %+v", call, fd, y.ready, x.ready)
				}
				if becomes {
					rose++
				}
			}
			before = after
		}
	}
	if rose < 1000 {
		t.Errorf("only %d rises were seen", rose)
	}
}

// TestReadyIsTrue: ErrAgain is never the answer for what is ready, and always for what is not, unless there is another error.
func TestReadyIsTrue(t *testing.T) {
	var seen [4]int
	for seed := range 40 {
		k := &walk{noise: noise(seed*15485863 + 2), w: world.New(), p: newPlain()}
		for range 500 {
			k.step()
			fd := k.fd()
			x := k.w.Ready(fd)
			_, _, e := k.w.Read(fd, 1)
			if e == api.ErrKind {
				_, _, e = k.w.Accept(fd)
			}
			if x.In == (e == api.ErrAgain) && e != api.ErrFd && e != api.ErrKind {
				t.Fatalf("Ready(%d) = %+v, then %v", fd, x, e)
			}
			x = k.w.Ready(fd)
			_, f := k.w.Write(fd, []byte("a"))
			if x.Out == (f == api.ErrAgain) && f != api.ErrFd && f != api.ErrKind && f != api.ErrPipe && f != api.ErrReset {
				t.Fatalf("Ready(%d) = %+v, then %v", fd, x, f)
			}
			for i, is := range []bool{e == api.ErrAgain, e == api.OK, f == api.ErrAgain, f == api.OK} {
				if is {
					seen[i]++
				}
			}
		}
	}
	if slices.Min(seen[:]) < 100 {
		t.Errorf("too few of them were seen: %v", seen)
	}
}

// TestNothingIsLost: what is read at an end is a prefix of what was written, or put, at the other one, and all of it in the end.
func TestNothingIsLost(t *testing.T) {
	var z noise
	w := world.New()
	fd, wire := outer(t, w, 37)
	ends := []struct {
		give        func(b []byte) (int, api.Errno)
		get         func(n int) ([]byte, api.Errno)
		given, gone []byte
	}{
		{give: func(b []byte) (int, api.Errno) { return w.Put(wire, b) }, get: func(n int) ([]byte, api.Errno) {
			b, _, e := w.Read(fd, n)
			return b, e
		}},
		{give: func(b []byte) (int, api.Errno) { return w.Write(fd, b) }, get: func(n int) ([]byte, api.Errno) { return w.Take(wire, n) }},
	}
	for range 20000 {
		x := &ends[z.below(2)]
		if z.below(2) == 0 {
			b := make([]byte, z.below(30))
			for i := range b {
				b[i] = byte(z.below(256))
			}
			n, _ := x.give(b)
			x.given = append(x.given, b[:n]...)
			continue
		}
		b, _ := x.get(1 + z.below(30))
		x.gone = append(x.gone, b...)
		if string(x.gone) != string(x.given[:len(x.gone)]) {
			t.Fatal("what was read is not what was written")
		}
	}
	for i := range ends {
		x := &ends[i]
		b, _ := x.get(100)
		if x.gone = append(x.gone, b...); string(x.gone) != string(x.given) || len(x.given) < 1000 {
			t.Errorf("end %d: %d bytes are read of %d", i, len(x.gone), len(x.given))
		}
	}
}

package world_test

import (
	"math"
	"slices"
	"testing"

	"roundhouse/api"
	"roundhouse/world"
)

// maker makes a wire of one kind, and answers its descriptors.
type maker func(w *world.World, n int) ([]int, api.Errno)

// makers are the calls that make a wire with descriptors, by name.
func makers() map[string]maker {
	return map[string]maker{
		"Pipe": func(w *world.World, n int) ([]int, api.Errno) {
			r, s, e := w.Pipe(n)
			return []int{r, s}, e
		},
		"Pair": func(w *world.World, n int) ([]int, api.Errno) {
			a, b, e := w.Pair(n)
			return []int{a, b}, e
		},
		"Outer": func(w *world.World, n int) ([]int, api.Errno) {
			fd, wire, e := w.Outer(n)
			if e != api.OK && wire != 0 {
				return []int{wire}, e
			}
			return []int{fd}, e
		},
		"Listen": func(w *world.World, n int) ([]int, api.Errno) {
			fd, wire, e := w.Listen(n)
			if e != api.OK && wire != 0 {
				return []int{wire}, e
			}
			return []int{fd}, e
		},
	}
}

// most is the greatest number that a maker takes.
func most(name string) int {
	if name == "Listen" {
		return api.MaxBacklog
	}
	return api.MaxRing
}

// refused fails unless a maker answers that error, and all else of it is zero.
func refused(t *testing.T, w *world.World, lay maker, n int, want api.Errno) {
	t.Helper()
	before := w.Image()
	if fds, e := lay(w, n); e != want || slices.Max(fds) != 0 || slices.Min(fds) != 0 {
		t.Errorf("%d: %v, %v, want %v", n, fds, e, want)
	}
	image(t, w, before...)
}

func TestMakeRefusesNumbers(t *testing.T) {
	for name, lay := range makers() {
		t.Run(name, func(t *testing.T) {
			w := world.New()
			outer(t, w, 1)
			bad := []int{math.MinInt, math.MinInt32, -64, -1, 0, most(name) + 1, most(name) + 2, 1 << 17, 1 << 32, 1<<32 + 1, math.MaxInt}
			for _, n := range bad {
				refused(t, w, lay, n, api.ErrArg)
			}
			for _, n := range []int{1, 2, most(name) - 1, most(name)} {
				_, e := lay(w, n)
				good(t, name, e)
			}
			for fd := range api.MaxFd + 1 { // ErrArg is named before ErrMany
				if !w.Ready(fd).Open {
					w.Listen(1)
				}
			}
			for _, n := range bad {
				refused(t, w, lay, n, api.ErrArg)
			}
		})
	}
}

func TestPipe(t *testing.T) {
	w := world.New()
	r, s := pipe(t, w, 3)
	image(t, w, "now 0", "fd 0 wire 0 end 0", "fd 1 wire 0 end 1", "wire 0 in /3 in -")
	ready(t, w, r, api.Ready{})
	ready(t, w, s, api.Ready{Out: true})
	write(t, w, s, "abcd", 3)
	ready(t, w, r, api.Ready{In: true, Reads: 1})
	ready(t, w, s, api.Ready{})
	read(t, w, r, 1, "a")
	ready(t, w, r, api.Ready{In: true, Reads: 1})
	ready(t, w, s, api.Ready{Out: true, Writes: 1})
	good(t, "Close", w.Close(r))
	ready(t, w, s, api.Ready{Out: true, Hup: true, Writes: 2})
}

func TestPair(t *testing.T) {
	w := world.New()
	a, b := pair(t, w, 2)
	image(t, w, "now 0", "fd 0 wire 0 end 0", "fd 1 wire 0 end 1", "wire 0 in /2 in /2")
	ready(t, w, a, api.Ready{Out: true})
	ready(t, w, b, api.Ready{Out: true})
	write(t, w, a, "abc", 2)
	write(t, w, b, "1", 1)
	ready(t, w, a, api.Ready{In: true, Reads: 1})
	ready(t, w, b, api.Ready{In: true, Out: true, Reads: 1})
	read(t, w, b, 2, "ab")
	read(t, w, a, 9, "1")
	ready(t, w, a, api.Ready{Out: true, Reads: 1, Writes: 1})
	ready(t, w, b, api.Ready{Out: true, Reads: 1, Writes: 1})
}

func TestOuter(t *testing.T) {
	w := world.New()
	fd, wire := outer(t, w, 2)
	image(t, w, "now 0", "fd 0 wire 0 end 0", "wire 0 in /2 out /2")
	ready(t, w, fd, api.Ready{Out: true})
	put(t, w, wire, "abc", 2)
	write(t, w, fd, "123", 2)
	ready(t, w, fd, api.Ready{In: true, Reads: 1})
	read(t, w, fd, 1, "a")
	take(t, w, wire, 1, "1")
	ready(t, w, fd, api.Ready{In: true, Out: true, Reads: 1, Writes: 1})
}

func TestListen(t *testing.T) {
	w := world.New()
	fd, wire := listen(t, w, 2)
	image(t, w, "now 0", "fd 0 wire 0 end 2", "wire 0 listen 2")
	ready(t, w, fd, api.Ready{})
	connect(t, w, wire, 1)
	ready(t, w, fd, api.Ready{In: true, Reads: 1})
	connect(t, w, wire, 2)
	ready(t, w, fd, api.Ready{In: true, Reads: 2})
	image(t, w, "now 0", "fd 0 wire 0 end 2", "wire 0 listen 2 1 2", "wire 1 none /1 out /1", "wire 2 none /2 out /2")
	accept(t, w, fd, 1, 1)
	ready(t, w, fd, api.Ready{In: true, Reads: 2})
	connect(t, w, wire, 3) // there is room at the backlog again
	accept(t, w, fd, 2, 2)
	accept(t, w, fd, 3, 3)
	ready(t, w, fd, api.Ready{Reads: 3})
	ready(t, w, 1, api.Ready{Out: true})
	image(t, w, "now 0", "fd 0 wire 0 end 2", "fd 1 wire 1 end 0", "fd 2 wire 2 end 0", "fd 3 wire 3 end 0",
		"wire 0 listen 2", "wire 1 in /1 out /1", "wire 2 in /2 out /2", "wire 3 in /3 out /3")
}

func TestAcceptRefuses(t *testing.T) {
	w := world.New()
	listen(t, w, 2)
	pipe(t, w, 1)
	pair(t, w, 1)
	outer(t, w, 1)
	connect(t, w, 0, 1)
	accept(t, w, 0, 6, 4)
	connect(t, w, 0, 1)
	closed, _ := pipe(t, w, 1)
	good(t, "Close", w.Close(closed))
	before := w.Image()
	for _, fd := range append(noNumbers(), closed, 9, 95) {
		if n, wire, e := w.Accept(fd); n != 0 || wire != 0 || e != api.ErrFd {
			t.Errorf("Accept(%d) = %d, %d, %v, want ErrFd", fd, n, wire, e)
		}
	}
	for fd := 1; fd <= 6; fd++ {
		if n, wire, e := w.Accept(fd); n != 0 || wire != 0 || e != api.ErrKind {
			t.Errorf("Accept(%d) = %d, %d, %v, want ErrKind", fd, n, wire, e)
		}
	}
	image(t, w, before...)
	accept(t, w, 0, closed, 5)
	if n, wire, e := w.Accept(0); n != 0 || wire != 0 || e != api.ErrAgain {
		t.Errorf("Accept = %d, %d, %v, want ErrAgain", n, wire, e)
	}
}

// TestSmallestIsTaken: what is made gets the smallest free descriptors, in the order of its ends.
func TestSmallestIsTaken(t *testing.T) {
	for name, lay := range makers() {
		t.Run(name, func(t *testing.T) {
			w := world.New()
			for range 5 {
				pair(t, w, 1)
			}
			for _, fd := range []int{7, 2, 9, 4} {
				good(t, "Close", w.Close(fd))
			}
			want := []int{2, 4, 7, 9, 10, 11, 12, 13}
			for len(want) > 2 {
				fds, e := lay(w, 1)
				good(t, name, e)
				if !slices.Equal(fds, want[:len(fds)]) {
					t.Fatalf("%v, want %v", fds, want)
				}
				want = want[len(fds):]
			}
		})
	}
}

func TestAcceptTakesTheSmallest(t *testing.T) {
	w := world.New()
	listen(t, w, 3)
	pair(t, w, 1)
	pair(t, w, 1)
	for range 3 {
		connect(t, w, 0, 1)
	}
	good(t, "Close", w.Close(3))
	good(t, "Close", w.Close(1))
	accept(t, w, 0, 1, 3)
	accept(t, w, 0, 3, 4)
	accept(t, w, 0, 5, 5)
}

// TestFewDescriptors: with so many of them free, what needs more is refused, and changes nothing.
func TestFewDescriptors(t *testing.T) {
	for name, lay := range makers() {
		for free := range 4 {
			w := world.New()
			listen(t, w, 1)
			for fd := 1; fd <= api.MaxFd-free; fd++ {
				if n, _ := outer(t, w, 1); n != fd {
					t.Fatalf("descriptor %d is %d", fd, n)
				}
			}
			connect(t, w, 0, 1)
			for left := free; ; {
				fds, e := lay(w, 1)
				if need := len(fds); left < need {
					if e != api.ErrMany {
						t.Errorf("%s with %d free: %v, want ErrMany", name, left, e)
					}
					refused(t, w, lay, 1, api.ErrMany)
					if left == 1 {
						accept(t, w, 0, 95, 96-free)
					} else if n, wire, e := w.Accept(0); n != 0 || wire != 0 || e != api.ErrMany {
						t.Errorf("Accept = %d, %d, %v, want ErrMany", n, wire, e)
					}
					break
				}
				good(t, name, e)
				if fds[0] != 96-left {
					t.Fatalf("%s with %d free: %v", name, left, fds)
				}
				left -= len(fds)
			}
		}
	}
}

// TestManyWires: there are at most MaxWires wires, even if no descriptor of theirs is open any longer.
func TestManyWires(t *testing.T) {
	for name, lay := range makers() {
		t.Run(name, func(t *testing.T) {
			w := world.New()
			listen(t, w, 2)
			for i := 1; i < api.MaxWires-1; i++ {
				if fd, wire := outer(t, w, 1); fd != 1 || wire != i {
					t.Fatalf("Outer = %d, %d, want 1, %d", fd, wire, i)
				}
				good(t, "Close", w.Close(1))
			}
			if n := connect(t, w, 0, 1); n != api.MaxWires-1 {
				t.Fatalf("Connect = %d", n)
			}
			for _, n := range []int{1, most(name)} {
				refused(t, w, lay, n, api.ErrMany)
			}
			if n, e := w.Connect(0, 1); n != 0 || e != api.ErrMany {
				t.Errorf("Connect = %d, %v, want ErrMany", n, e)
			}
			accept(t, w, 0, 1, api.MaxWires-1) // that makes no wire
			refused(t, w, lay, 1, api.ErrMany)
			good(t, "Close", w.Close(1))
			good(t, "PeerClose", w.PeerClose(api.MaxWires-1))
			refused(t, w, lay, 1, api.ErrMany)
		})
	}
}

// TestLastWire: the wire that is made last is one like any other.
func TestLastWire(t *testing.T) {
	for name, lay := range makers() {
		t.Run(name, func(t *testing.T) {
			w := world.New()
			for range api.MaxWires - 1 {
				outer(t, w, 1)
				good(t, "Close", w.Close(0))
			}
			fds, e := lay(w, 1)
			good(t, name, e)
			if n, e := w.Wire(fds[0]); n != api.MaxWires-1 || e != api.OK {
				t.Errorf("Wire = %d, %v", n, e)
			}
			refused(t, w, lay, 1, api.ErrMany)
		})
	}
}

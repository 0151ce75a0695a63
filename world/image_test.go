package world_test

import (
	"slices"
	"strings"
	"testing"

	"roundhouse/api"
	"roundhouse/world"
)

func TestFdsAndWire(t *testing.T) {
	w := world.New()
	pair(t, w, 1)
	pipe(t, w, 1)
	listen(t, w, 1)
	outer(t, w, 1)
	connect(t, w, 2, 1)
	accept(t, w, 4, 6, 4)
	wires := map[int]int{0: 0, 1: 0, 2: 1, 3: 1, 4: 2, 5: 3, 6: 4}
	for _, gone := range []int{-1, 3, 0, 4, 6} {
		if gone >= 0 {
			good(t, "Close", w.Close(gone))
			delete(wires, gone)
		}
		var fds []int
		for fd := range api.MaxFd + 1 {
			n, e := w.Wire(fd)
			if wire, is := wires[fd]; is {
				fds = append(fds, fd)
				if n != wire || e != api.OK || !w.Ready(fd).Open {
					t.Errorf("Wire(%d) = %d, %v, want %d", fd, n, e, wire)
				}
			} else if n != 0 || e != api.ErrFd || w.Ready(fd) != (api.Ready{}) {
				t.Errorf("Wire(%d) = %d, %v, want ErrFd", fd, n, e)
			}
		}
		if l := w.Fds(); !slices.Equal(l, fds) {
			t.Errorf("Fds = %v, want %v", l, fds)
		}
	}
}

func TestFdsOfAll(t *testing.T) {
	w := world.New()
	for range (api.MaxFd + 1) / 2 {
		pipe(t, w, 1)
	}
	l := w.Fds()
	if len(l) != api.MaxFd+1 {
		t.Fatalf("Fds = %v", l)
	}
	for i, fd := range l {
		if fd != i {
			t.Errorf("%d of Fds is %d", i, fd)
		}
	}
	good(t, "Close", w.Close(api.MaxFd))
	if l := w.Fds(); len(l) != api.MaxFd || slices.Contains(l, api.MaxFd) {
		t.Errorf("Fds = %v", l)
	}
}

func TestImage(t *testing.T) {
	w := world.New()
	w.Pass(12)
	r, _ := pipe(t, w, 2)
	a, b := pair(t, w, 300)
	listen(t, w, 3)
	fd, wire := outer(t, w, api.MaxRing)
	connect(t, w, 2, 5)
	connect(t, w, 2, 6)
	connect(t, w, 2, 7)
	write(t, w, 1, "\x00", 1)
	write(t, w, a, "\x0f\xf0\x7f\x80\xff", 5)
	write(t, w, fd, "AZ", 2)
	errors(t, "several", api.OK, w.Shut(b), w.Close(r), w.PeerShut(wire), w.Reset(5), w.PeerClose(6), w.Notice(b, a),
		w.Handle(31, true), w.Handle(1, true), w.Handle(10, true))
	good(t, "Raise", w.Raise(10)) // there are bytes already
	accept(t, w, 4, 0, 4)
	good(t, "Close", w.Close(1))
	image(t, w,
		"now 12",
		"fd 0 wire 4 end 0",
		"fd 2 wire 1 end 0",
		"fd 3 wire 1 end 1",
		"fd 4 wire 2 end 2",
		"fd 5 wire 3 end 0",
		"wire 0 closed 00/2 closed -",
		"wire 1 in /300 in shut 01/300",
		"wire 2 listen 3 5 6",
		"wire 3 in /65536 out shut 415a/65536",
		"wire 4 in /5 out /5",
		"wire 5 none /6 out /6 reset",
		"wire 6 none /7 closed /7",
		"signal 1 0",
		"signal 10 1",
		"signal 31 0",
		"notice 1 1",
	)
}

// TestImageOfBytes: each byte is two digits, in the order in which the bytes will be read.
func TestImageOfBytes(t *testing.T) {
	w := world.New()
	_, s := pipe(t, w, 256)
	write(t, w, s, strings.Repeat("-", 100), 100) // so that the ring's bytes go round
	read(t, w, 0, 100, strings.Repeat("-", 100))
	var all []byte
	var text strings.Builder
	for b := range 256 {
		all = append(all, byte(b))
		text.WriteString("0123456789abcdef"[b/16:][:1] + "0123456789abcdef"[b%16:][:1])
	}
	write(t, w, s, string(all), 256)
	image(t, w, "now 0", "fd 0 wire 0 end 0", "fd 1 wire 0 end 1", "wire 0 in "+text.String()+"/256 in -")
	read(t, w, 0, 255, string(all[:255]))
	image(t, w, "now 0", "fd 0 wire 0 end 0", "fd 1 wire 0 end 1", "wire 0 in ff/256 in -")
}

// TestImageWithoutRises: worlds that differ by how often something rose alone have one image.
func TestImageWithoutRises(t *testing.T) {
	v, w := world.New(), world.New()
	for _, x := range []*world.World{v, w} {
		outer(t, x, 4)
	}
	put(t, v, 0, "ab", 2)
	read(t, v, 0, 2, "ab")
	put(t, v, 0, "c", 1)
	put(t, w, 0, "c", 1)
	image(t, v, w.Image()...)
	if v.Ready(0) == w.Ready(0) {
		t.Errorf("Ready = %+v", v.Ready(0))
	}
}

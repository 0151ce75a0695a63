package sel_test

import (
	"slices"
	"testing"

	"roundhouse/api"
	"roundhouse/fdset"
	"roundhouse/sel"
	"roundhouse/world"
)

// noise gives numbers that look random, and are the same in each run.
type noise uint64

func (z *noise) below(n int) int {
	*z = *z*6364136223846793005 + 1442695040888963407
	return int(uint64(*z>>33) % uint64(n))
}

// some are descriptors, mostly open ones: none, a few, or many.
func (z *noise) some(t *testing.T, w *world.World) fdset.Set {
	t.Helper()
	var l []int
	share := z.below(4)
	for _, fd := range w.Fds() {
		if fd < api.SetSize && z.below(3) < share {
			l = append(l, fd)
		}
	}
	if z.below(6) == 0 {
		l = append(l, z.below(api.SetSize))
	}
	return set(t, l...)
}

// stir does one thing to a world. What fails changes nothing, so that errors do not matter.
func (z *noise) stir(w *world.World) {
	fd, wire, n := z.below(24), z.below(16), 1+z.below(3)
	switch z.below(16) {
	case 0:
		w.Pipe(n)
	case 1:
		w.Pair(n)
	case 2:
		w.Outer(n)
	case 3:
		w.Listen(n)
	case 4:
		w.Connect(wire, n)
	case 5:
		w.Accept(fd)
	case 6, 7:
		w.Read(fd, n)
	case 8, 9:
		w.Write(fd, make([]byte, n))
	case 10, 11:
		w.Put(wire, make([]byte, n))
	case 12:
		w.Take(wire, n)
	case 13:
		w.Close(fd)
	case 14:
		w.Shut(fd)
	case 15:
		[]func(int) api.Errno{w.PeerShut, w.PeerClose, w.Reset}[z.below(3)](wire)
	}
}

// plain says what Select is to answer, as plainly as can be.
func plain(w *world.World, top int, read, write fdset.Set) (r, s []int, e api.Errno) {
	for fd := range top {
		x := w.Ready(fd)
		if (read.Has(fd) || write.Has(fd)) && !x.Open {
			return nil, nil, api.ErrFd
		}
		if read.Has(fd) && (x.In || x.Hup || x.Err) {
			r = append(r, fd)
		}
		if write.Has(fd) && (x.Out || x.Hup || x.Err) {
			s = append(s, fd)
		}
	}
	return r, s, api.OK
}

// look is all that can be seen of a world.
func look(w *world.World) (image []string, ready []api.Ready) {
	for fd := range api.MaxFd + 1 {
		ready = append(ready, w.Ready(fd))
	}
	return w.Image(), ready
}

func TestWalk(t *testing.T) {
	z, seen := noise(13), map[string]int{}
	for range 40 {
		w := world.New()
		for range 150 {
			z.stir(w)
			read, write, top := z.some(t, w), z.some(t, w), z.below(api.SetSize+1)
			if z.below(2) == 0 {
				top = sel.Top(read, write)
			}
			image, ready := look(w)
			r, s, e := plain(w, top, read, write)
			if e != api.OK {
				refused(t, w, top, read, write, e)
				seen["refused"]++
			} else {
				reported(t, w, top, read, write, r, s)
				seen["readers"] += len(r)
				seen["writers"] += len(s)
				widened(t, &z, w, top, read, write)
			}
			imageNow, readyNow := look(w)
			if !slices.Equal(imageNow, image) || !slices.Equal(readyNow, ready) {
				t.Fatalf("Select(%d, %v, %v) changed the world:\n%v\n%v", top, read.All(), write.All(), image, imageNow)
			}
			if t.Failed() {
				t.Fatalf("in %v", image)
			}
		}
	}
	if seen["refused"] < 300 || seen["readers"] < 1000 || seen["writers"] < 1000 {
		t.Errorf("too little was seen: %v", seen)
	}
}

// widened fails unless the report of what is requested is the same if more is requested, and if top is greater and there is nothing.
func widened(t *testing.T, z *noise, w *world.World, top int, read, write fdset.Set) {
	t.Helper()
	r, s, n, _ := sel.Select(w, top, read, write)
	if r.Less(read) != (fdset.Set{}) || s.Less(write) != (fdset.Set{}) {
		t.Errorf("of %v, %v there were reported %v, %v", read.All(), write.All(), r.All(), s.All())
	}
	moreRead, moreWrite := read.Or(z.some(t, w)), write.Or(z.some(t, w))
	if r2, s2, _, e := sel.Select(w, top, moreRead, moreWrite); e == api.OK {
		if r2.And(read.Below(top)) != r || s2.And(write.Below(top)) != s {
			t.Errorf("%v, %v became %v, %v when %v, %v was requested", r.All(), s.All(), r2.All(), s2.All(), moreRead.All(), moreWrite.All())
		}
	}
	cutRead, cutWrite := read.Below(top), write.Below(top)
	for _, far := range []int{top, top + z.below(api.SetSize-top+1), api.SetSize} {
		if r2, s2, n2, e := sel.Select(w, far, cutRead, cutWrite); r2 != r || s2 != s || n2 != n || e != api.OK {
			t.Errorf("%v, %v became %v, %v, %v with the top %d for %d", r.All(), s.All(), r2.All(), s2.All(), e, far, top)
		}
	}
}

package ring_test

import (
	"bytes"
	"slices"
	"testing"

	"roundhouse/api"
	"roundhouse/ring"
)

// plain is a ring told as plainly as can be, all that was ever put: what the tests hold a Ring against.
type plain struct {
	capacity int
	all      []byte
	out      int
}

func (p *plain) put(b []byte) int {
	n := min(len(b), p.capacity-len(p.rest()))
	p.all = append(p.all, b[:n]...)
	return n
}

func (p *plain) rest() []byte { return p.all[p.out:] }

func (p *plain) look(n int) []byte {
	return p.rest()[:max(0, min(n, len(p.rest())))]
}

func (p *plain) take(n int) []byte {
	b := p.look(n)
	p.out += len(b)
	return b
}

func (p *plain) grow(capacity int) api.Errno {
	if capacity < len(p.rest()) || capacity > api.MaxRing {
		return api.ErrArg
	}
	p.capacity = capacity
	return api.OK
}

// noise gives numbers that look random, and are the same in each run.
type noise uint64

func (z *noise) below(n int) int {
	*z = *z*6364136223846793005 + 1442695040888963407
	return int(uint64(*z>>33) % uint64(n))
}

func (z *noise) bytes(n int) []byte {
	b := make([]byte, n)
	for i := range b {
		b[i] = byte(z.below(256))
	}
	return b
}

// TestLongWalk does thousands of calls to a ring and to a plain one: both answer the same.
func TestLongWalk(t *testing.T) {
	var z noise
	for _, wide := range []int{1, 2, 3, 5, 8, 20, 60, 300} {
		r, p := made(t, wide), &plain{capacity: wide}
		var removed []byte
		for step := range 4000 {
			out, same := walkOn(&z, r, p, wide)
			removed = append(removed, out...)
			if !same || !bytes.Equal(r.Look(wide*3), p.rest()) {
				t.Fatalf("width %d, step %d: the ring has %q, want %q, or answered otherwise", wide, step, r.Look(wide*3), p.rest())
			}
			in, gone := r.Counts()
			if in != uint64(len(p.all)) || gone != uint64(p.out) || r.Len() != int(in-gone) || r.Room() != p.capacity-r.Len() {
				t.Fatalf("width %d, step %d: Counts = %d, %d, Len = %d, Room = %d", wide, step, in, gone, r.Len(), r.Room())
			}
		}
		if removed = append(removed, r.Take(wide*3)...); !bytes.Equal(removed, p.all) {
			t.Fatalf("width %d: what was removed is not what was put", wide)
		}
	}
}

// walkOn does one call to both, and says what it removed and whether they answer the same.
func walkOn(z *noise, r *ring.Ring, p *plain, wide int) ([]byte, bool) {
	n := z.below(wide*2+3) - 1
	switch z.below(16) {
	case 0, 1, 2, 3, 4:
		b := z.bytes(max(n, 0))
		return nil, r.Put(b) == p.put(b)
	case 5, 6, 7, 8, 9:
		b := r.Take(n)
		return b, bytes.Equal(b, p.take(n))
	case 10, 11:
		return nil, bytes.Equal(r.Look(n), p.look(n))
	case 12, 13, 14:
		return nil, r.Grow(n) == p.grow(n)
	}
	if z.below(5) > 0 {
		return nil, true
	}
	b := slices.Clone(p.take(p.capacity))
	return b, r.Clear() == len(b)
}

// TestMany puts and takes so many bytes, few at a time, that calls which walk through all of them would not end.
func TestMany(t *testing.T) {
	r := made(t, api.MaxRing)
	next := func(i int) byte { return byte(i * 40503 >> 7) }
	at := 0
	for i := range 1 << 21 {
		if r.Room() == 0 {
			if b := r.Take(1); len(b) != 1 || b[0] != next(at) {
				t.Fatalf("byte %d is %v, want %d", at, b, next(at))
			}
			at++
		}
		if n := r.Put([]byte{next(i)}); n != 1 {
			t.Fatalf("Put of byte %d = %d", i, n)
		}
	}
	counts(t, r, 1<<21, uint64(at))
	for i, x := range r.Take(api.MaxRing) {
		if x != next(at+i) {
			t.Fatalf("byte %d is %d, want %d", at+i, x, next(at+i))
		}
	}
	counts(t, r, 1<<21, 1<<21)
}

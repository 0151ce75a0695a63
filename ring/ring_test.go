package ring_test

import (
	"bytes"
	"math"
	"testing"

	"roundhouse/api"
	"roundhouse/ring"
)

// made is a new ring of that capacity.
func made(t *testing.T, capacity int) *ring.Ring {
	t.Helper()
	r, e := ring.New(capacity)
	if e != api.OK || r == nil {
		t.Fatalf("New(%d) = %v, %v", capacity, r, e)
	}
	return r
}

// holds fails unless the ring has just these bytes and that capacity, by every call that tells of them.
func holds(t *testing.T, r *ring.Ring, want string, capacity int) {
	t.Helper()
	for range 2 { // to tell of them changes nothing
		if b := r.Look(math.MaxInt); string(b) != want {
			t.Fatalf("Look = %q, want %q", b, want)
		}
		if n := r.Len(); n != len(want) {
			t.Fatalf("Len = %d, want %d", n, len(want))
		}
		if n := r.Room(); n != capacity-len(want) {
			t.Fatalf("Room = %d, want %d", n, capacity-len(want))
		}
	}
}

// counts fails unless so many bytes were put and removed.
func counts(t *testing.T, r *ring.Ring, in, out uint64) {
	t.Helper()
	if i, o := r.Counts(); i != in || o != out {
		t.Fatalf("Counts = %d, %d, want %d, %d", i, o, in, out)
	}
}

func put(t *testing.T, r *ring.Ring, s string, want int) {
	t.Helper()
	if n := r.Put([]byte(s)); n != want {
		t.Fatalf("Put(%q) = %d, want %d", s, n, want)
	}
}

func take(t *testing.T, r *ring.Ring, n int, want string) {
	t.Helper()
	if b := r.Take(n); string(b) != want {
		t.Fatalf("Take(%d) = %q, want %q", n, b, want)
	}
}

// turned has s in it, and its first byte at any place: so many bytes went through it before.
func turned(t *testing.T, capacity, by int, s string) *ring.Ring {
	t.Helper()
	r := made(t, capacity)
	put(t, r, "----------------"[:capacity], capacity) // so that all the places are there
	take(t, r, capacity, "----------------"[:capacity])
	for range by {
		put(t, r, "+", 1)
		take(t, r, 1, "+")
	}
	put(t, r, s, len(s))
	return r
}

func TestExamples(t *testing.T) {
	r := made(t, 4)
	put(t, r, "abc", 3)
	put(t, r, "de", 1)
	take(t, r, 2, "ab")
	put(t, r, "ef", 2)
	if b := r.Look(9); string(b) != "cdef" {
		t.Errorf("Look(9) = %q", b)
	}
	if n := r.Room(); n != 0 {
		t.Errorf("Room = %d", n)
	}
	counts(t, r, 6, 2)
}

func TestNew(t *testing.T) {
	for _, capacity := range []int{0, 1, 2, 255, 256, 4096, api.MaxRing - 1, api.MaxRing} {
		r := made(t, capacity)
		holds(t, r, "", capacity)
		counts(t, r, 0, 0)
		if n := r.Put(make([]byte, api.MaxRing+1)); n != capacity || r.Len() != capacity || r.Room() != 0 {
			t.Errorf("capacity %d: Put = %d, then Len = %d, Room = %d", capacity, n, r.Len(), r.Room())
		}
	}
}

func TestNewRefuses(t *testing.T) {
	for _, capacity := range []int{-1, -2, math.MinInt, api.MaxRing + 1, api.MaxRing + 2, 2 * api.MaxRing, 1 << 32, math.MaxInt} {
		if r, e := ring.New(capacity); r != nil || e != api.ErrArg {
			t.Errorf("New(%d) = %v, %v, want nil, ErrArg", capacity, r, e)
		}
	}
}

func TestNotMade(t *testing.T) {
	for name, r := range map[string]*ring.Ring{"nil": nil, "zero": {}} {
		t.Run(name, func(t *testing.T) {
			for range 2 { // no call makes a ring of it
				for _, capacity := range []int{0, 5, -1, api.MaxRing + 1} {
					if e := r.Grow(capacity); e != api.ErrNil {
						t.Errorf("Grow(%d) = %v, want ErrNil", capacity, e)
					}
				}
				for _, s := range []string{"", "abc"} {
					put(t, r, s, 0)
				}
				for _, n := range []int{math.MinInt, -1, 0, 1, math.MaxInt} {
					if b, c := r.Look(n), r.Take(n); b != nil || c != nil {
						t.Errorf("Look(%d) = %v, Take = %v, want nil", n, b, c)
					}
				}
				if n := r.Clear(); n != 0 {
					t.Errorf("Clear = %d", n)
				}
				holds(t, r, "", 0)
				counts(t, r, 0, 0)
			}
		})
	}
}

func TestRingsAreApart(t *testing.T) {
	a, b := made(t, 4), made(t, 4)
	put(t, a, "ab", 2)
	put(t, b, "xyz", 3)
	take(t, a, 1, "a")
	holds(t, a, "b", 4)
	holds(t, b, "xyz", 4)
	counts(t, b, 3, 0)
}

func TestNoCapacity(t *testing.T) {
	r := made(t, 0)
	put(t, r, "abc", 0)
	put(t, r, "", 0)
	take(t, r, 3, "")
	if n := r.Clear(); n != 0 {
		t.Errorf("Clear = %d", n)
	}
	holds(t, r, "", 0)
	counts(t, r, 0, 0)
	if e := r.Grow(2); e != api.OK {
		t.Fatalf("Grow(2): %v", e)
	}
	put(t, r, "abc", 2)
	holds(t, r, "ab", 2)
}

// TestPut puts so much behind so much, wherever the first byte's place is.
func TestPut(t *testing.T) {
	const text, more = "abcdefg", "0123456789"
	for _, capacity := range []int{1, 2, 3, 7} {
		for by := range capacity + 1 {
			for has := range capacity + 1 {
				for n := range len(more) + 1 {
					r := turned(t, capacity, by, text[:has])
					in, out := r.Counts()
					fits := min(n, capacity-has)
					put(t, r, more[:n], fits)
					holds(t, r, text[:has]+more[:fits], capacity)
					counts(t, r, in+uint64(fits), out)
				}
			}
		}
	}
}

// TestTake takes so much of so much, wherever the first byte's place is.
func TestTake(t *testing.T) {
	const text = "abcdefg"
	for _, capacity := range []int{1, 2, 3, 7} {
		for by := range capacity + 1 {
			for has := range capacity + 1 {
				for _, n := range []int{math.MinInt, -8, -1, 0, 1, 2, 3, 6, 7, 8, math.MaxInt} {
					r := turned(t, capacity, by, text[:has])
					in, out := r.Counts()
					comes := max(0, min(n, has))
					if b := r.Look(n); string(b) != text[:comes] {
						t.Fatalf("%q: Look(%d) = %q, want %q", text[:has], n, b, text[:comes])
					}
					holds(t, r, text[:has], capacity)
					counts(t, r, in, out)
					take(t, r, n, text[:comes])
					holds(t, r, text[comes:has], capacity)
					counts(t, r, in, out+uint64(comes))
				}
			}
		}
	}
}

func TestClear(t *testing.T) {
	const text = "abcdefg"
	for by := range len(text) + 1 {
		for has := range len(text) + 1 {
			r := turned(t, len(text), by, text[:has])
			in, out := r.Counts()
			if n := r.Clear(); n != has {
				t.Fatalf("Clear = %d, want %d", n, has)
			}
			holds(t, r, "", len(text))
			counts(t, r, in, out+uint64(has))
			if n := r.Clear(); n != 0 {
				t.Fatalf("Clear again = %d", n)
			}
			take(t, r, 1, "")
			put(t, r, "01234567", len(text))
			holds(t, r, "0123456", len(text))
			counts(t, r, in+uint64(len(text)), out+uint64(has))
		}
	}
}

// TestGrow gives a ring each capacity, wherever the first byte's place is, and fills and empties it then.
func TestGrow(t *testing.T) {
	const text, more = "abcdefg", "0123456789012345"
	for by := range len(text) + 1 {
		for has := range len(text) + 1 {
			for capacity := has; capacity <= 14; capacity++ {
				r := turned(t, len(text), by, text[:has])
				in, out := r.Counts()
				if e := r.Grow(capacity); e != api.OK {
					t.Fatalf("%d bytes: Grow(%d): %v", has, capacity, e)
				}
				holds(t, r, text[:has], capacity)
				counts(t, r, in, out)
				put(t, r, more, capacity-has)
				holds(t, r, text[:has]+more[:capacity-has], capacity)
				take(t, r, capacity/2, (text[:has] + more)[:capacity/2])
				put(t, r, more, capacity/2)
				take(t, r, math.MaxInt, (text[:has] + more[:capacity-has] + more[:capacity/2])[capacity/2:])
			}
		}
	}
}

func TestGrowRefuses(t *testing.T) {
	for _, s := range []string{"", "a", "abcd", "abcdefg"} {
		r := turned(t, 7, 5, s)
		in, out := r.Counts()
		for _, capacity := range []int{len(s) - 1, -1, -7, math.MinInt, api.MaxRing + 1, 2 * api.MaxRing, 1 << 32, math.MaxInt} {
			if e := r.Grow(capacity); e != api.ErrArg {
				t.Fatalf("%q: Grow(%d) = %v, want ErrArg", s, capacity, e)
			}
			holds(t, r, s, 7)
			counts(t, r, in, out)
		}
	}
}

func TestGrowToTheLimits(t *testing.T) {
	r := made(t, 3)
	put(t, r, "abc", 3)
	if e := r.Grow(api.MaxRing); e != api.OK {
		t.Fatalf("Grow(MaxRing): %v", e)
	}
	holds(t, r, "abc", api.MaxRing)
	if n := r.Put(make([]byte, api.MaxRing)); n != api.MaxRing-3 {
		t.Fatalf("Put = %d", n)
	}
	if e := r.Grow(api.MaxRing - 1); e != api.ErrArg {
		t.Errorf("Grow of a full ring to less: %v", e)
	}
	take(t, r, 3, "abc")
	if n := r.Clear(); n != api.MaxRing-3 {
		t.Fatalf("Clear = %d", n)
	}
	if e := r.Grow(0); e != api.OK {
		t.Fatalf("Grow(0): %v", e)
	}
	holds(t, r, "", 0)
	put(t, r, "a", 0)
	counts(t, r, api.MaxRing, api.MaxRing)
}

func TestArgumentsAreRead(t *testing.T) {
	for by := range 4 {
		r := turned(t, 4, by, "a")
		b := []byte("bcdefg")
		r.Put(b[:3:6])
		if string(b) != "bcdefg" {
			t.Fatalf("Put made %q of its argument", b)
		}
		copy(b, "------")
		holds(t, r, "abcd", 4)
		r.Take(9)
		if string(b) != "------" {
			t.Fatalf("the argument is kept, and %q now", b)
		}
	}
}

func TestSlicesAreNew(t *testing.T) {
	for by := range 8 {
		r := turned(t, 7, by, "abcdef")
		first, second := r.Look(4), r.Look(6)
		taken := r.Take(3)
		for _, b := range [][]byte{first, taken} {
			for i := range b {
				b[i] = '-'
			}
			_ = append(b, "---"...)
		}
		if string(second) != "abcdef" || string(first) != "----" {
			t.Fatalf("a second Look is %q, the first is %q", second, first)
		}
		holds(t, r, "def", 7)
		put(t, r, "0123", 4)
		if string(taken) != "---" || string(second) != "abcdef" {
			t.Fatalf("later %q, %q", taken, second)
		}
		holds(t, r, "def0123", 7)
		if !bytes.Equal(r.Take(7), []byte("def0123")) {
			t.Fatal("Take is not what Look was")
		}
	}
}

package ticks_test

import (
	"math"
	"math/bits"
	"slices"
	"testing"

	"roundhouse/api"
	"roundhouse/ticks"
)

const never = api.Never

// edges are the numbers that the document names, and those beside them.
func edges() []uint64 {
	l := []uint64{0, 1, 2, 3, math.MaxInt32, math.MaxInt32 + 1, math.MaxUint32, math.MaxUint32 + 1}
	for _, n := range []uint64{999, 1000, 1001, api.MaxWait - 1, api.MaxWait, api.MaxWait + 1} {
		l = append(l, n, 2*n, never-n)
	}
	return append(l, 1<<63-1, 1<<63, 1<<63+1, never-3, never-2, never-1, never)
}

// scattered are numbers of all lengths.
func scattered(many int) []uint64 {
	var l []uint64
	state := uint64(7)
	for i := range many {
		state = state*6364136223846793005 + 1442695040888963407
		l = append(l, (state^state>>29)>>(i%64))
	}
	return l
}

// several are the edges, and scattered numbers.
func several() []uint64 { return append(edges(), scattered(300)...) }

func TestDeadline(t *testing.T) {
	for _, x := range []struct{ now, after, want uint64 }{
		{0, 0, 0}, {5, 10, 15}, {0, 7, 7}, {7, 0, 7},
		{never - 2, 10, never}, {never - 3, 2, never - 1}, {never - 2, 2, never}, {never - 2, 3, never},
		{0, never, never}, {never, 0, never}, {never, never, never}, {3, never, never}, {never, 1, never},
		{0, never - 1, never - 1}, {1, never - 1, never}, {2, never - 1, never}, {1 << 63, 1 << 63, never}, {1 << 63, 1<<63 - 1, never},
	} {
		if d := ticks.Deadline(x.now, x.after); d != x.want {
			t.Errorf("Deadline(%d, %d) = %d, want %d", x.now, x.after, d, x.want)
		}
	}
	for _, now := range several() {
		for _, after := range several() {
			want, over := bits.Add64(now, after, 0)
			if over != 0 || after == never {
				want = never
			}
			if d := ticks.Deadline(now, after); d != want {
				t.Fatalf("Deadline(%d, %d) = %d, want %d", now, after, d, want)
			}
		}
	}
}

func TestLeft(t *testing.T) {
	for _, x := range []struct{ now, deadline, want uint64 }{
		{0, 0, 0}, {5, 5, 0}, {5, 6, 1}, {20, 15, 0}, {6, 5, 0}, {0, 9, 9}, {10, 25, 15},
		{0, never, never}, {5, never, never}, {never, never, never}, {never - 1, never, never},
		{0, never - 1, never - 1}, {never - 1, never - 1, 0}, {never, never - 1, 0}, {never, 0, 0},
	} {
		if left := ticks.Left(x.now, x.deadline); left != x.want {
			t.Errorf("Left(%d, %d) = %d, want %d", x.now, x.deadline, left, x.want)
		}
	}
	for _, now := range several() {
		for _, deadline := range several() {
			want := uint64(0)
			if deadline == never {
				want = never
			} else if deadline > now {
				want = deadline - now
			}
			if left := ticks.Left(now, deadline); left != want {
				t.Fatalf("Left(%d, %d) = %d, want %d", now, deadline, left, want)
			}
		}
	}
}

func TestLeast(t *testing.T) {
	for _, x := range []struct {
		l    []uint64
		want uint64
	}{
		{nil, never}, {[]uint64{}, never}, {[]uint64{never}, never}, {[]uint64{never, never}, never}, {[]uint64{0}, 0},
		{[]uint64{never, never - 1}, never - 1}, {[]uint64{never, 0, never}, 0},
		{[]uint64{7, 3, 9}, 3}, {[]uint64{3, 7, 9}, 3}, {[]uint64{9, 7, 3}, 3}, {[]uint64{5, 5, 5}, 5},
		{[]uint64{9, 8, 8, 9, 1, 2, 0, 3}, 0}, {[]uint64{2, 9, 1, 8, 1, 7}, 1}, {[]uint64{1 << 63, 1, 1<<63 - 1}, 1},
	} {
		if least := ticks.Least(x.l); least != x.want {
			t.Errorf("Least(%v) = %d, want %d", x.l, least, x.want)
		}
	}
	for from := range 200 {
		l := several()[from:]
		kept := slices.Clone(l)
		if least := ticks.Least(l); least != slices.Min(kept) || !slices.Equal(l, kept) {
			t.Fatalf("Least(%v) = %d, then %v", kept, least, l)
		}
	}
}

// TestLeastOfEveryOrder holds all orders of few numbers, equal ones among them, against their minimum.
func TestLeastOfEveryOrder(t *testing.T) {
	const base, places = 4, 6
	for code := range 1 << (2 * places) {
		l := make([]uint64, places)
		for i := range l {
			l[i] = uint64(code>>(2*i)%base) + 1
		}
		for n := 1; n <= places; n++ {
			if least := ticks.Least(l[:n]); least != slices.Min(l[:n]) {
				t.Fatalf("Least(%v) = %d", l[:n], least)
			}
		}
	}
}

// TestLeastOfMany takes long lists, falling ones among them, in which every number is a new minimum.
func TestLeastOfMany(t *testing.T) {
	const many = 1 << 20
	l := make([]uint64, many)
	for i := range l {
		l[i] = uint64(many - i)
	}
	if least := ticks.Least(l); least != 1 {
		t.Errorf("the least of a falling list is %d", least)
	}
	slices.Reverse(l)
	if least := ticks.Least(l); least != 1 {
		t.Errorf("the least of a rising list is %d", least)
	}
}

func TestWait(t *testing.T) {
	for _, x := range []struct {
		left, want uint64
	}{
		{0, 0}, {1, 1}, {7, 7}, {api.MaxWait - 1, api.MaxWait - 1}, {api.MaxWait, api.MaxWait}, {api.MaxWait + 1, api.MaxWait},
		{1 << 30, api.MaxWait}, {1 << 63, api.MaxWait}, {never - 1, api.MaxWait}, {never, never},
	} {
		if wait := ticks.Wait(x.left, false); wait != x.want {
			t.Errorf("Wait(%d, false) = %d, want %d", x.left, wait, x.want)
		}
	}
	for _, left := range several() {
		if wait := ticks.Wait(left, true); wait != 0 {
			t.Errorf("Wait(%d, true) = %d, want 0", left, wait)
		}
		if wait := ticks.Wait(left, false); left != never && wait > api.MaxWait {
			t.Errorf("Wait(%d, false) = %d, more than a kernel waits", left, wait)
		}
	}
}

// TestDeadlinesAndNow holds the consequences: a deadline is not before now, and what is left of it leads to it.
func TestDeadlinesAndNow(t *testing.T) {
	for _, now := range several() {
		for _, n := range several() {
			if d := ticks.Deadline(now, n); d < now {
				t.Fatalf("Deadline(%d, %d) = %d, before now", now, n, d)
			}
			if n < now {
				continue
			}
			if d := ticks.Deadline(now, ticks.Left(now, n)); d != n {
				t.Fatalf("at %d what is left of %d leads to %d", now, n, d)
			}
		}
	}
}

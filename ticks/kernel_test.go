package ticks_test

import (
	"math"
	"testing"

	"roundhouse/api"
	"roundhouse/ticks"
)

// smalls are the two forms of a pair: of select, and of kqueue.
var smalls = [...]int{1000, 1000000}

// strangers are numbers that name no form.
var strangers = [...]int{0, 1, -1, 999, 1001, 10000, 999999, 1000001, 1000000000, -1000, -1000000, math.MinInt, math.MaxInt, 1000 + 1<<32}

// noWaits are numbers that no kernel waits.
func noWaits() []uint64 {
	var l []uint64
	for _, n := range several() {
		if n > api.MaxWait && n != never {
			l = append(l, n)
		}
	}
	return append(l, api.MaxWait+1, never-1)
}

func TestPair(t *testing.T) {
	for _, x := range []struct {
		wait        uint64
		small       int
		count, rest int64
	}{
		{0, 1000, 0, 0}, {1, 1000, 0, 1000}, {999, 1000, 0, 999000}, {1000, 1000, 1, 0}, {1001, 1000, 1, 1000}, {2500, 1000, 2, 500000},
		{0, 1000000, 0, 0}, {1, 1000000, 0, 1000000}, {999, 1000000, 0, 999000000}, {1000, 1000000, 1, 0}, {2500, 1000000, 2, 500000000},
		{1048575, 1000, 1048, 575000}, {1048576, 1000, 1048, 576000}, {1048576, 1000000, 1048, 576000000},
		{never, 1000, -1, -1}, {never, 1000000, -1, -1},
	} {
		if c, r, e := ticks.Pair(x.wait, x.small); c != x.count || r != x.rest || e != api.OK {
			t.Errorf("Pair(%d, %d) = %d, %d, %v, want %d, %d", x.wait, x.small, c, r, e, x.count, x.rest)
		}
	}
}

func TestPairRefuses(t *testing.T) {
	for _, small := range smalls {
		for _, wait := range noWaits() {
			if c, r, e := ticks.Pair(wait, small); c != 0 || r != 0 || e != api.ErrArg {
				t.Errorf("Pair(%d, %d) = %d, %d, %v, want ErrArg", wait, small, c, r, e)
			}
		}
	}
	for _, small := range strangers {
		for _, wait := range edges() {
			if c, r, e := ticks.Pair(wait, small); c != 0 || r != 0 || e != api.ErrArg {
				t.Errorf("Pair(%d, %d) = %d, %d, %v, want ErrArg", wait, small, c, r, e)
			}
		}
	}
}

// TestPairOfEveryWait goes through all waits: their numbers are in their bounds, and lead back.
func TestPairOfEveryWait(t *testing.T) {
	for _, small := range smalls {
		for wait := range uint64(api.MaxWait + 1) {
			c, r, e := ticks.Pair(wait, small)
			if c != int64(wait/1000) || r != int64(wait%1000)*int64(small) || e != api.OK {
				t.Fatalf("Pair(%d, %d) = %d, %d, %v", wait, small, c, r, e)
			}
			if back, e := ticks.FromPair(c, r, small); back != wait || e != api.OK {
				t.Fatalf("FromPair(%d, %d, %d) = %d, %v, want %d", c, r, small, back, e, wait)
			}
		}
		if back, e := ticks.FromPair(-1, -1, small); back != never || e != api.OK {
			t.Errorf("FromPair(-1, -1, %d) = %d, %v, want Never", small, back, e)
		}
	}
}

// waitOf is the wait of two numbers told plainly, and whether there is one.
func waitOf(count, rest int64, small int) (uint64, bool) {
	if count == -1 && rest == -1 {
		return never, true
	}
	if count < 0 || count > api.MaxWait/1000 || rest < 0 || rest%int64(small) != 0 || rest/int64(small) > 999 {
		return 0, false
	}
	wait := count*1000 + rest/int64(small)
	if wait > api.MaxWait {
		return 0, false
	}
	return uint64(wait), true
}

// near are numbers that a pair may have, those beside them, and those far off, some of which wrap round to a wait's.
func near() []int64 {
	l := []int64{math.MinInt64, math.MinInt64 + 1, math.MaxInt64, math.MaxInt64 - 1, 1 << 61, 3 << 60, -1 << 61, 1<<61 + 1}
	for _, n := range []int64{0, 1, 2, 500, 999, 1000, 1047, 1048, 1049, 575000, 576000, 577000, 999000, 1000000, 2000000, 575000000, 576000000, 577000000, 999000000, 1000000000, math.MaxUint32, 1 << 54} {
		l = append(l, n-1, n, n+1, -n, n*1000)
	}
	return l
}

func TestFromPair(t *testing.T) {
	for _, small := range smalls {
		for _, count := range near() {
			for _, rest := range near() {
				want, is := waitOf(count, rest, small)
				e := api.OK
				if !is {
					e = api.ErrArg
				}
				if wait, f := ticks.FromPair(count, rest, small); wait != want || f != e {
					t.Fatalf("FromPair(%d, %d, %d) = %d, %v, want %d, %v", count, rest, small, wait, f, want, e)
				}
			}
		}
	}
}

func TestFromPairExamples(t *testing.T) {
	if wait, e := ticks.FromPair(2, 500000, 1000); wait != 2500 || e != api.OK {
		t.Errorf("FromPair(2, 500000, 1000) = %d, %v, want 2500", wait, e)
	}
	for _, x := range [][2]int64{{0, 1}, {0, 999}, {0, 1001}, {0, 1000000}, {-1, 0}, {0, -1}, {-2, -2}, {-1, 1000000}, {1049, 0}, {1048, 577000}, {1 << 61, 0}} {
		if wait, e := ticks.FromPair(x[0], x[1], 1000); wait != 0 || e != api.ErrArg {
			t.Errorf("FromPair(%d, %d, 1000) = %d, %v, want ErrArg", x[0], x[1], wait, e)
		}
	}
	for _, small := range strangers {
		for _, x := range [][2]int64{{0, 0}, {-1, -1}, {1, 0}, {0, int64(small)}, {0, 1000}} {
			if wait, e := ticks.FromPair(x[0], x[1], small); wait != 0 || e != api.ErrArg {
				t.Errorf("FromPair(%d, %d, %d) = %d, %v, want ErrArg", x[0], x[1], small, wait, e)
			}
		}
	}
}

func TestSingle(t *testing.T) {
	for wait := range uint64(api.MaxWait + 1) {
		n, e := ticks.Single(wait)
		if n != int(wait) || e != api.OK {
			t.Fatalf("Single(%d) = %d, %v", wait, n, e)
		}
		if back, e := ticks.FromSingle(n); back != wait || e != api.OK {
			t.Fatalf("FromSingle(%d) = %d, %v, want %d", n, back, e, wait)
		}
	}
	if n, e := ticks.Single(never); n != -1 || e != api.OK {
		t.Errorf("Single(Never) = %d, %v, want -1", n, e)
	}
	if wait, e := ticks.FromSingle(-1); wait != never || e != api.OK {
		t.Errorf("FromSingle(-1) = %d, %v, want Never", wait, e)
	}
}

func TestSingleRefuses(t *testing.T) {
	for _, wait := range noWaits() {
		if n, e := ticks.Single(wait); n != 0 || e != api.ErrArg {
			t.Errorf("Single(%d) = %d, %v, want ErrArg", wait, n, e)
		}
	}
	for _, n := range []int{-2, -3, -1000, math.MinInt, math.MinInt + 1, api.MaxWait + 1, 1 << 30, math.MaxInt} {
		if wait, e := ticks.FromSingle(n); wait != 0 || e != api.ErrArg {
			t.Errorf("FromSingle(%d) = %d, %v, want ErrArg", n, wait, e)
		}
	}
}

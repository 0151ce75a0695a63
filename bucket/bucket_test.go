package bucket_test

import (
	"math"
	"testing"

	"roundhouse/api"
	"roundhouse/bucket"
)

const (
	never = math.MaxUint64
	most  = 1<<31 - 1 // tokens
)

// made is a new bucket with that rate.
func made(t *testing.T, many int64, every uint64, burst int64, now uint64) *bucket.Bucket {
	t.Helper()
	b, e := bucket.New(bucket.Rate{Many: many, Every: every, Burst: burst}, now)
	if e != api.OK || b == nil {
		t.Fatalf("New(%d each %d, burst %d) = %v, %v", many, every, burst, b, e)
	}
	return b
}

func have(t *testing.T, b *bucket.Bucket, now uint64, want int64) {
	t.Helper()
	for range 2 { // a tick that was passed brings nothing more
		if n := b.Have(now); n != want {
			t.Fatalf("Have(%d) = %d, want %d", now, n, want)
		}
	}
}

func take(t *testing.T, b *bucket.Bucket, now uint64, n, want int64) {
	t.Helper()
	if got := b.Take(now, n); got != want {
		t.Fatalf("Take(%d, %d) = %d, want %d", now, n, got, want)
	}
}

func borrow(t *testing.T, b *bucket.Bucket, now uint64, n int64, want api.Errno) {
	t.Helper()
	if e := b.Borrow(now, n); e != want {
		t.Fatalf("Borrow(%d, %d) = %v, want %v", now, n, e, want)
	}
}

func when(t *testing.T, b *bucket.Bucket, now uint64, n int64, want uint64) {
	t.Helper()
	for range 2 {
		if at := b.When(now, n); at != want {
			t.Fatalf("When(%d, %d) = %d, want %d", now, n, at, want)
		}
	}
}

func set(t *testing.T, b *bucket.Bucket, now uint64, many int64, every uint64, burst int64, want api.Errno) {
	t.Helper()
	if e := b.Set(now, bucket.Rate{Many: many, Every: every, Burst: burst}); e != want {
		t.Fatalf("Set(%d, %d each %d, burst %d) = %v, want %v", now, many, every, burst, e, want)
	}
}

func TestExamples(t *testing.T) {
	b := made(t, 3, 10, 8, 100)
	take(t, b, 100, 10, 8)
	have(t, b, 109, 0)
	have(t, b, 110, 3)
	have(t, b, 125, 6)
	borrow(t, b, 125, 9, api.OK)
	have(t, b, 125, -3)
	when(t, b, 125, 1, 140)
	when(t, b, 125, 9, never)
}

// rates are numbers that rates may have, at their bounds, and those that they may not.
var (
	goodRates = []bucket.Rate{{1, 1, 1}, {1, 1, most}, {most, 1, most}, {most, 1 << 20, most}, {1, 1 << 20, 1}, {5, 7, 5}, {5, 7, 6}, {most - 1, 2, most}}
	badRates  = []bucket.Rate{
		{}, {0, 1, 1}, {-1, 1, 1}, {math.MinInt64, 1, 1}, {0, 1, 0}, {-2, 1, -1},
		{1, 0, 1}, {1, 1<<20 + 1, 1}, {1, math.MaxUint32 + 2, 1}, {1, never, 1}, {1, 1 << 63, 1},
		{2, 1, 1}, {1, 1, 0}, {1, 1, -1}, {1, 1, math.MinInt64}, {most, 1, most - 1},
		{1, 1, most + 1}, {most + 1, 1, most + 1}, {most + 1, 1, most}, {1, 1, math.MaxInt64}, {math.MaxInt64, 1, math.MaxInt64}, {1, 1, 1<<32 + 1},
	}
)

func TestMaxTokens(t *testing.T) {
	if n := int64(bucket.MaxTokens); n != 2147483647 {
		t.Errorf("MaxTokens = %d", n)
	}
}

func TestCheckAndNew(t *testing.T) {
	for _, r := range goodRates {
		if e := bucket.Check(r); e != api.OK {
			t.Errorf("Check(%v) = %v", r, e)
		}
		for _, now := range []uint64{0, 1, 99, 1 << 40, never - 1, never} {
			b := made(t, r.Many, r.Every, r.Burst, now)
			have(t, b, 0, r.Burst)
			have(t, b, now, r.Burst)
			if b.Rate != r || b.Many != r.Many || b.Every != r.Every || b.Burst != r.Burst {
				t.Errorf("New(%v) has the rate %v", r, b.Rate)
			}
		}
	}
	for _, r := range badRates {
		if e := bucket.Check(r); e != api.ErrBucket {
			t.Errorf("Check(%v) = %v, want ErrBucket", r, e)
		}
		if b, e := bucket.New(r, 5); b != nil || e != api.ErrBucket {
			t.Errorf("New(%v) = %v, %v, want nil, ErrBucket", r, b, e)
		}
	}
}

// TestNewBeginsNow: the first period begins when the bucket is made, not at a multiple of Every.
func TestNewBeginsNow(t *testing.T) {
	for _, now := range []uint64{0, 1, 9, 10, 11, 1 << 50, never - 10} {
		b := made(t, 3, 10, 8, now)
		take(t, b, now, 8, 8)
		have(t, b, now+9, 0)
		have(t, b, now+10, 3)
	}
}

func TestNotMade(t *testing.T) {
	good := bucket.Rate{Many: 1, Every: 1, Burst: 5}
	broken := made(t, 1, 1, 5, 0)
	broken.Every = 0
	for name, b := range map[string]*bucket.Bucket{"nil": nil, "zero": {}, "with a rate": {Rate: good}, "with a bad rate": {Rate: bucket.Rate{Burst: 5}}, "broken": broken} {
		t.Run(name, func(t *testing.T) {
			for range 2 { // no call makes a bucket of it
				for _, now := range []uint64{0, 1, 100, never} {
					for _, n := range []int64{math.MinInt64, -1, 0, 1, 5, most, most + 1, math.MaxInt64} {
						have(t, b, now, 0)
						take(t, b, now, n, 0)
						borrow(t, b, now, n, api.ErrNil)
						when(t, b, now, n, 0)
					}
					set(t, b, now, 1, 1, 5, api.ErrNil)
					set(t, b, now, 0, 0, 0, api.ErrNil)
				}
			}
		})
	}
}

// TestWrittenRate: whatever is written into the fields of the rate, calls end, and don't panic.
func TestWrittenRate(t *testing.T) {
	all := append([]bucket.Rate{}, goodRates...)
	for _, from := range goodRates {
		for _, r := range append(all, badRates...) {
			for _, owed := range []int64{0, 1, most} {
				b := made(t, from.Many, from.Every, from.Burst, 7)
				b.Borrow(7, owed)
				b.Rate = r
				b.When(1<<30, 2)
				b.Take(1<<62, 1)
				b.Borrow(never, 1)
				b.When(never-1, most)
				if n := b.Have(never); n > max(0, r.Burst) {
					t.Errorf("%v written over %v: Have = %d", r, from, n)
				}
			}
		}
	}
}

func TestBucketsAreApart(t *testing.T) {
	a, b := made(t, 3, 10, 8, 0), made(t, 1, 1, 4, 0)
	take(t, a, 0, 5, 5)
	set(t, b, 0, 1, 5, 3, api.OK)
	have(t, a, 0, 3)
	have(t, b, 0, 3)
	have(t, a, 10, 6)
	have(t, b, 10, 3)
}

// TestPass: whole periods bring tokens, the rest of one is kept for later.
func TestPass(t *testing.T) {
	b := made(t, 2, 5, 100, 0)
	take(t, b, 0, 100, 100)
	for _, x := range []struct {
		now  uint64
		want int64
	}{{0, 0}, {4, 0}, {5, 2}, {9, 2}, {10, 4}, {13, 4}, {14, 4}, {15, 6}, {29, 10}, {30, 12}, {252, 100}, {253, 100}} {
		have(t, b, x.now, x.want)
	}
	take(t, b, 254, 1, 1)
	have(t, b, 254, 99)
	have(t, b, 255, 100) // not 101
	take(t, b, 255, 3, 3)
	have(t, b, 259, 97)
	have(t, b, 260, 99)
}

// TestTicksBefore: a tick that is not after the clock brings nothing and takes nothing away.
func TestTicksBefore(t *testing.T) {
	b := made(t, 2, 5, 20, 100)
	take(t, b, 100, 20, 20)
	for _, now := range []uint64{99, 50, 0, 100, 104} {
		have(t, b, now, 0)
		when(t, b, now, 1, 105)
		when(t, b, now, 0, now)
	}
	have(t, b, 113, 4) // the clock is 110
	for _, now := range []uint64{0, 9, 105, 110, 114} {
		have(t, b, now, 4)
		when(t, b, now, 4, now)
		when(t, b, now, 5, 115)
	}
	take(t, b, 3, 3, 3)
	have(t, b, 114, 1)
	have(t, b, 115, 3)
}

func TestTake(t *testing.T) {
	for _, x := range []struct{ owed, n, want, left int64 }{
		{0, 1, 1, 9}, {0, 9, 9, 1}, {0, 10, 10, 0}, {0, 11, 10, 0}, {0, math.MaxInt64, 10, 0},
		{0, 0, 0, 10}, {0, -1, 0, 10}, {0, math.MinInt64, 0, 10},
		{10, 1, 0, 0}, {10, math.MaxInt64, 0, 0}, {10, -1, 0, 0},
		{11, 1, 0, -1}, {11, -1, 0, -1}, {11, -2, 0, -1}, {11, 0, 0, -1}, {30, 7, 0, -20}, {30, -20, 0, -20}, {30, math.MinInt64, 0, -20},
	} {
		b := made(t, 1, 10, 10, 0)
		borrow(t, b, 0, x.owed, api.OK)
		take(t, b, 0, x.n, x.want)
		have(t, b, 0, x.left)
	}
}

func TestBorrow(t *testing.T) {
	b := made(t, 4, 10, 10, 0)
	for _, n := range []int64{-1, -2, math.MinInt64, most + 1, 1 << 32, math.MaxInt64} {
		borrow(t, b, 0, n, api.ErrArg)
	}
	have(t, b, 0, 10)
	borrow(t, b, 0, 0, api.OK)
	have(t, b, 0, 10)
	borrow(t, b, 0, 7, api.OK)
	have(t, b, 0, 3)
	borrow(t, b, 0, 4, api.OK)
	have(t, b, 0, -1)
	have(t, b, 10, 3)
}

// TestBorrowTooMany: what is missing is MaxTokens at most.
func TestBorrowTooMany(t *testing.T) {
	b := made(t, 1, 10, 10, 0)
	borrow(t, b, 0, most, api.OK)
	have(t, b, 0, 10-most)
	borrow(t, b, 0, 11, api.ErrArg)
	borrow(t, b, 0, most, api.ErrArg)
	have(t, b, 0, 10-most)
	borrow(t, b, 0, 9, api.OK)
	borrow(t, b, 0, 1, api.OK)
	have(t, b, 0, -most)
	borrow(t, b, 0, 0, api.OK)
	borrow(t, b, 0, 1, api.ErrArg)
	borrow(t, b, 9, 1, api.ErrArg)
	borrow(t, b, 10, 1, api.OK) // what the period brought
	have(t, b, 10, -most)
	when(t, b, 10, -most, 10)
	when(t, b, 10, 0, 10+10*most)
	have(t, b, 9+10*most, -1)
	have(t, b, 10+10*most, 0)

	full := made(t, most, 1, most, 0)
	borrow(t, full, 0, most, api.OK)
	have(t, full, 0, 0)
	borrow(t, full, 0, most, api.OK)
	have(t, full, 0, -most)
	borrow(t, full, 0, 1, api.ErrArg)
	when(t, full, 0, 1, 2)
	have(t, full, 1, 0)
	have(t, full, 2, most)
}

func TestWhen(t *testing.T) {
	for _, x := range []struct {
		owed int64
		now  uint64
		n    int64
		want uint64
	}{
		{0, 100, 8, 100}, {0, 100, 0, 100}, {0, 100, math.MinInt64, 100}, {0, 100, 9, never}, {0, 100, math.MaxInt64, never},
		{1, 100, 8, 110}, {1, 109, 8, 110}, {1, 110, 8, 110}, {1, 111, 8, 111}, {1, 104, 7, 104}, {3, 100, 8, 110}, {4, 100, 8, 120}, {6, 100, 8, 120}, {7, 100, 8, 130},
		{8, 100, 1, 110}, {8, 100, 3, 110}, {8, 100, 4, 120}, {8, 100, 6, 120}, {8, 100, 7, 130}, {8, 100, 8, 130}, {8, 100, 9, never},
		{8, 109, 4, 120}, {8, 110, 4, 120}, {8, 119, 4, 120}, {8, 120, 4, 120}, {8, 125, 4, 125}, {8, 129, 8, 130},
		{11, 100, 0, 110}, {11, 100, -1, 110}, {11, 100, -2, 110}, {11, 100, -3, 100}, {11, 100, -4, 100}, {11, 100, math.MinInt64, 100}, {12, 100, 0, 120},
		{20, 50, 1, 150}, {20, 0, -12, 0}, {20, 0, -11, 110},
	} {
		b := made(t, 3, 10, 8, 100)
		borrow(t, b, 100, x.owed, api.OK)
		when(t, b, x.now, x.n, x.want)
	}
}

// TestWhenNever: a tick that does not come before ticks end is Never, and Never itself is no less.
func TestWhenNever(t *testing.T) {
	b := made(t, 1, 10, 5, never-31)
	borrow(t, b, never-31, 5, api.OK)
	when(t, b, never-31, 1, never-21)
	when(t, b, never-31, 2, never-11)
	when(t, b, never-31, 3, never-1)
	when(t, b, never-31, 4, never)
	when(t, b, never-31, 5, never)
	have(t, b, never-1, 3)
	when(t, b, never-1, 3, never-1)
	when(t, b, never-1, 4, never)
	have(t, b, never, 3)
	when(t, b, never, 3, never)
	when(t, b, 0, 3, 0)

	last := made(t, 1, 10, 5, never-10)
	take(t, last, 0, 5, 5)
	when(t, last, 0, 1, never)
	when(t, last, 0, 2, never)
	have(t, last, never-1, 0)
	have(t, last, never, 1)

	slow := made(t, 1, 1<<20, most, 0)
	borrow(t, slow, 0, most, api.OK)
	borrow(t, slow, 0, most, api.OK)
	when(t, slow, 0, most, 2*most<<20)
	have(t, slow, 2*most<<20-1, most-1)
	have(t, slow, 2*most<<20, most)

	late := made(t, 1, 1<<20, most, never-(2*most<<20))
	borrow(t, late, 0, most, api.OK)
	borrow(t, late, 0, most, api.OK)
	when(t, late, 0, most-1, never-(1<<20))
	when(t, late, 0, most, never)
	have(t, late, never-1, most-1)
}

// TestManyPeriods: so many periods bring what there may be, and no less; the numbers don't wrap round.
func TestManyPeriods(t *testing.T) {
	for _, r := range goodRates {
		for _, owed := range []int64{0, 1, r.Burst, most} {
			for _, now := range []uint64{1 << 52, 1<<62 + 12345, 1 << 63, never - 1, never} {
				b := made(t, r.Many, r.Every, r.Burst, 0)
				borrow(t, b, 0, owed, api.OK)
				have(t, b, now, r.Burst)
				take(t, b, now, most, r.Burst)
				have(t, b, now, 0)
				have(t, b, now-now%r.Every, 0)
				if next := now - now%r.Every + r.Every; next > now {
					when(t, b, now, 1, next)
					have(t, b, next-1, 0)
					have(t, b, next, r.Many)
				}
			}
		}
	}
}

func TestSet(t *testing.T) {
	b := made(t, 3, 10, 8, 0)
	take(t, b, 0, 6, 6)
	set(t, b, 10, 4, 5, 20, api.OK) // 5 tokens by now; the greater burst brings none
	if r := (bucket.Rate{Many: 4, Every: 5, Burst: 20}); b.Rate != r {
		t.Errorf("the rate is %v", b.Rate)
	}
	have(t, b, 10, 5)
	have(t, b, 14, 5)
	have(t, b, 15, 9)
	set(t, b, 15, 2, 5, 9, api.OK)
	have(t, b, 15, 9)
	set(t, b, 16, 2, 5, 8, api.OK)
	have(t, b, 16, 8)
	set(t, b, 16, 2, 5, 3, api.OK)
	have(t, b, 16, 3)
	set(t, b, 16, 2, 5, 30, api.OK) // what was removed does not come back
	have(t, b, 16, 3)
	borrow(t, b, 16, 10, api.OK)
	set(t, b, 16, 1, 1, 1, api.OK) // what is missing stays so
	have(t, b, 16, -6)
}

// TestSetPasses: the tick is passed by the rate that was, and the part of a period that is left counts for the rate that comes.
func TestSetPasses(t *testing.T) {
	b := made(t, 3, 10, 8, 0)
	take(t, b, 0, 8, 8)
	set(t, b, 29, 1, 7, 8, api.OK) // the clock is 20
	have(t, b, 20, 6)
	have(t, b, 26, 6)
	have(t, b, 27, 7)
	set(t, b, 33, 1, 2, 8, api.OK)
	take(t, b, 28, 7, 7)
	have(t, b, 33, 3) // 29, 31, 33
	set(t, b, 32, 1, 2, 8, api.OK)
	have(t, b, 34, 3)
	set(t, b, 34, 1, 5, 8, api.OK)
	have(t, b, 37, 3)
	have(t, b, 38, 4)
}

func TestSetRefuses(t *testing.T) {
	for _, r := range badRates {
		b := made(t, 3, 10, 8, 0)
		take(t, b, 0, 8, 8)
		set(t, b, 25, r.Many, r.Every, r.Burst, api.ErrBucket)
		have(t, b, 5, 0) // the tick was not passed
		if b.Many != 3 || b.Every != 10 || b.Burst != 8 {
			t.Errorf("Set(%v) was refused, and left the rate %v", r, b.Rate)
		}
		have(t, b, 25, 6)
	}
}

// TestEachCallPasses: after any call with a tick, the tokens until then are there for calls with earlier ones.
func TestEachCallPasses(t *testing.T) {
	for name, x := range map[string]struct {
		call func(b *bucket.Bucket, now uint64)
		want int64
	}{
		"Have":           {func(b *bucket.Bucket, now uint64) { b.Have(now) }, 6},
		"Take":           {func(b *bucket.Bucket, now uint64) { b.Take(now, 1) }, 5},
		"Take none":      {func(b *bucket.Bucket, now uint64) { b.Take(now, 0) }, 6},
		"Take below":     {func(b *bucket.Bucket, now uint64) { b.Take(now, -1) }, 6},
		"Borrow":         {func(b *bucket.Bucket, now uint64) { b.Borrow(now, 7) }, -1},
		"Borrow below":   {func(b *bucket.Bucket, now uint64) { b.Borrow(now, -1) }, 6},
		"Borrow above":   {func(b *bucket.Bucket, now uint64) { b.Borrow(now, most+1) }, 6},
		"When":           {func(b *bucket.Bucket, now uint64) { b.When(now, 1) }, 6},
		"When above":     {func(b *bucket.Bucket, now uint64) { b.When(now, 9) }, 6},
		"Set":            {func(b *bucket.Bucket, now uint64) { b.Set(now, b.Rate) }, 6},
		"Set what is no": {func(b *bucket.Bucket, now uint64) { b.Set(now, bucket.Rate{}) }, 0},
	} {
		t.Run(name, func(t *testing.T) {
			b := made(t, 3, 10, 8, 0)
			take(t, b, 0, 8, 8)
			x.call(b, 25)
			have(t, b, 0, x.want)
		})
	}
}

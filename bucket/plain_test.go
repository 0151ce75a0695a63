package bucket_test

import (
	"math/big"
	"testing"

	"roundhouse/api"
	"roundhouse/bucket"
)

// plain is a bucket told as plainly as can be: periods come one by one.
type plain struct {
	r      bucket.Rate
	tokens int64
	clock  uint64
}

func (p *plain) pass(now uint64) {
	for now > p.clock && now-p.clock >= p.r.Every {
		p.tokens = min(p.tokens+p.r.Many, p.r.Burst)
		p.clock += p.r.Every
	}
}

func (p *plain) have(now uint64) int64 {
	p.pass(now)
	return p.tokens
}

func (p *plain) take(now uint64, n int64) int64 {
	p.pass(now)
	var took int64
	for ; n > 0 && p.tokens > 0; n-- {
		p.tokens--
		took++
	}
	return took
}

func (p *plain) borrow(now uint64, n int64) api.Errno {
	p.pass(now)
	if n < 0 || n > most || p.tokens-n < -most {
		return api.ErrArg
	}
	p.tokens -= n
	return api.OK
}

// when tries tick by tick.
func (p *plain) when(now uint64, n int64) uint64 {
	p.pass(now)
	if n > p.r.Burst {
		return never
	}
	for later, at := *p, now; ; at++ {
		if later.have(at) >= n {
			return at
		}
	}
}

func (p *plain) set(now uint64, r bucket.Rate) api.Errno {
	if r.Many < 1 || r.Many > most || r.Every < 1 || r.Every > api.MaxWait || r.Burst < r.Many || r.Burst > most {
		return api.ErrBucket
	}
	p.pass(now)
	p.r = r
	for p.tokens > r.Burst {
		p.tokens--
	}
	return api.OK
}

// noise gives numbers that look random, and are the same in each run.
type noise uint64

func (z *noise) below(n int64) int64 {
	*z = *z*6364136223846793005 + 1442695040888963407
	return int64(uint64(*z>>33) % uint64(n))
}

// rate is one of small numbers, which now and then no bucket may have.
func (z *noise) rate() bucket.Rate {
	many := z.below(6)
	return bucket.Rate{Many: many, Every: uint64(z.below(12)), Burst: many + z.below(15) - 1}
}

// TestLongWalk does thousands of calls to a bucket and to a plain one: both answer the same.
func TestLongWalk(t *testing.T) {
	var z noise
	for round := range 60 {
		now := uint64(z.below(100))
		b, p := made(t, 2, 5, 9, now), &plain{bucket.Rate{Many: 2, Every: 5, Burst: 9}, 9, now}
		for step := range 1500 {
			now += uint64(z.below(4) * z.below(8))
			at := now - min(now, uint64(z.below(2)*z.below(2)*z.below(30))) // now and then, an earlier tick
			if !walkOn(&z, b, p, at) || b.Rate != p.r || z.below(3) == 0 && b.Have(at) != p.have(at) {
				t.Fatalf("round %d, step %d, tick %d: the bucket is %+v, want %+v, or answered otherwise", round, step, at, *b, *p)
			}
		}
	}
}

// walkOn does one call to both, and says whether they answer the same.
func walkOn(z *noise, b *bucket.Bucket, p *plain, now uint64) bool {
	n := z.below(24) - 3
	switch z.below(12) {
	case 0, 1, 2, 3:
		return b.Take(now, n) == p.take(now, n)
	case 4, 5:
		return b.Borrow(now, n) == p.borrow(now, n)
	case 6, 7, 8:
		return b.When(now, n) == p.when(now, n)
	case 9, 10:
		return b.Have(now) == p.have(now)
	}
	r := z.rate()
	return b.Set(now, r) == p.set(now, r)
}

// whenExactly is what When promises, computed by numbers of any size, for a bucket with so many tokens whose clock is so far.
func whenExactly(r bucket.Rate, tokens int64, clock, now uint64, n int64) uint64 {
	if n > r.Burst {
		return never
	}
	if tokens >= n {
		return now
	}
	periods := big.NewInt(n - tokens + r.Many - 1)
	periods.Div(periods, big.NewInt(r.Many))
	at := periods.Mul(periods, new(big.Int).SetUint64(r.Every))
	if at.Add(at, new(big.Int).SetUint64(clock)); !at.IsUint64() {
		return never
	}
	return at.Uint64()
}

// haveExactly is what there is after so many ticks, computed by numbers of any size.
func haveExactly(r bucket.Rate, tokens int64, passed uint64) int64 {
	n := new(big.Int).SetUint64(passed / r.Every)
	n.Mul(n, big.NewInt(r.Many))
	n.Add(n, big.NewInt(tokens))
	if n.Cmp(big.NewInt(r.Burst)) > 0 {
		return r.Burst
	}
	return n.Int64()
}

// TestWide holds rates, tokens and ticks of all sizes against numbers of any size.
func TestWide(t *testing.T) {
	var z noise
	for range 20000 {
		burst := 1 + z.below(most)>>z.below(31)
		r := bucket.Rate{Many: 1 + z.below(burst)>>z.below(31), Every: uint64(1 + z.below(1<<20)>>z.below(20)), Burst: burst}
		clock := uint64(z.below(most))<<(33*z.below(2)) | uint64(z.below(most))
		b := made(t, r.Many, r.Every, r.Burst, clock)
		owed := z.below(most)
		borrow(t, b, clock, owed, api.OK)
		n := burst - z.below(most)>>z.below(31)
		when(t, b, clock, n, whenExactly(r, burst-owed, clock, clock, n))
		passed := min(uint64(z.below(most))<<z.below(33), never-clock)
		have(t, b, clock+passed, haveExactly(r, burst-owed, passed))
	}
}

// TestWhenIsTheFirst: at the tick that When answers there is enough, one tick earlier there is not.
func TestWhenIsTheFirst(t *testing.T) {
	var z noise
	for range 3000 {
		r := z.rate()
		if bucket.Check(r) != api.OK {
			continue
		}
		now := uint64(z.below(1 << 30))
		b := made(t, r.Many, r.Every, r.Burst, now)
		borrow(t, b, now, z.below(100), api.OK)
		now += uint64(z.below(40))
		n := r.Burst - z.below(20)
		at := b.When(now, n)
		if at < now {
			t.Fatalf("%v: When(%d, %d) = %d", r, now, n, at)
		}
		if at > now {
			if left := b.Have(at - 1); left >= n {
				t.Fatalf("%v: When(%d, %d) = %d, one tick earlier there are %d", r, now, n, at, left)
			}
		}
		if left := b.Have(at); left < n {
			t.Fatalf("%v: When(%d, %d) = %d, and there are %d", r, now, n, at, left)
		}
	}
}

// TestRateIsKept: in no interval does Take remove more than the rate allows.
func TestRateIsKept(t *testing.T) {
	var z noise
	for range 60 {
		r := bucket.Rate{Many: 1 + z.below(5), Every: uint64(1 + z.below(9))}
		r.Burst = r.Many + z.below(10)
		now := uint64(z.below(1000))
		b := made(t, r.Many, r.Every, r.Burst, now)
		var ticks []uint64
		var took []int64
		for range 200 {
			now += uint64(z.below(4) * z.below(int64(r.Every)+2))
			ticks, took = append(ticks, now), append(took, b.Take(now, z.below(r.Burst*2)))
		}
		for i := range ticks {
			var sum int64
			for j := i; j < len(ticks); j++ {
				sum += took[j]
				if periods := int64((ticks[j] - ticks[i]) / r.Every); sum > r.Burst+(periods+1)*r.Many {
					t.Fatalf("%v: from tick %d to %d, %d tokens were taken", r, ticks[i], ticks[j], sum)
				}
			}
		}
	}
}

// TestMany: a call takes no longer for more periods, or for more tokens.
func TestMany(t *testing.T) {
	b := made(t, 1, 1, most, 0)
	for i := range uint64(1 << 20) {
		now := i << 43
		take(t, b, now, most, most)
		borrow(t, b, now, most, api.OK)
		if at := b.When(now, most); at != now+2*most {
			t.Fatalf("When(%d, %d) = %d", now, most, at)
		}
	}
}

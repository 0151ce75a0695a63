package sigs_test

import (
	"maps"
	"slices"
	"testing"

	"roundhouse/api"
	"roundhouse/sigs"
)

// plain is a table told as plainly as can be, the count of each handled signal: what the tests hold a table against.
type plain map[int]int

func (p plain) handle(sig int, on bool) {
	if !on {
		delete(p, sig)
	} else if _, is := p[sig]; !is {
		p[sig] = 0
	}
}

func (p plain) raise(sig int) {
	if _, is := p[sig]; is {
		p[sig]++
	}
}

func (p plain) pending() int {
	sum := 0
	for _, n := range p {
		sum += n
	}
	return sum
}

func (p plain) list() []int {
	return slices.Sorted(maps.Keys(p))
}

func (p plain) take() []api.Count {
	var l []api.Count
	for _, sig := range p.list() {
		if p[sig] > 0 {
			l = append(l, api.Count{Sig: sig, N: p[sig]})
			p[sig] = 0
		}
	}
	return l
}

// noise gives numbers that look random, and are the same in each run.
type noise uint64

func (z *noise) below(n int) int {
	*z = *z*6364136223846793005 + 1442695040888963407
	return int(uint64(*z>>33) % uint64(n))
}

// TestLongWalk does thousands of calls to a table and to a plain one: both answer the same, and hold the same behind each call.
func TestLongWalk(t *testing.T) {
	for _, seldom := range []int{2, 4, 12, 50} { // one of so many calls is to handle, or to take
		z := noise(seldom)
		s, p := sigs.New(), plain{}
		for range 4000 {
			sig := 1 + z.below(api.MaxSig)
			switch n := z.below(4 * seldom); {
			case n < 3:
				on := n < 2
				handle(t, s, on, sig)
				p.handle(sig, on)
			case n == 3:
				take(t, s, p.take()...)
			default:
				raise(t, s, sig)
				p.raise(sig)
			}
			if z.below(8) == 0 {
				holds(t, s.Copy(), p)
			}
			holds(t, s, p)
		}
	}
}

// TestNothingIsLost: of signals that are handled all the time all that was raised is taken, and nothing twice, whatever becomes of others.
func TestNothingIsLost(t *testing.T) {
	var z noise
	s := sigs.New()
	always := []int{1, 2, 16, 31}
	handle(t, s, true, always...)
	raised, taken := [api.MaxSig + 1]int{}, [api.MaxSig + 1]int{}
	for range 20000 {
		sig := 1 + z.below(api.MaxSig)
		switch z.below(9) {
		case 0:
			if !slices.Contains(always, sig) {
				handle(t, s, false, sig)
			}
		case 1:
			for _, x := range s.Take() {
				taken[x.Sig] += x.N
			}
		case 2:
			if slices.Contains(always, sig) {
				handle(t, s, true, sig)
			}
		default:
			raise(t, s, sig)
			raised[sig]++
		}
	}
	for _, x := range s.Take() {
		taken[x.Sig] += x.N
	}
	for sig, n := range taken {
		want := 0
		if slices.Contains(always, sig) {
			want = raised[sig]
		}
		if n != want {
			t.Errorf("signal %d: %d are taken of %d", sig, n, want)
		}
	}
}

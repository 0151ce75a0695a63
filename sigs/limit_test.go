package sigs

import (
	"slices"
	"testing"

	"roundhouse/api"
)

// TestCountIsLimited starts near the limit: to get there by Raise alone would take too long.
func TestCountIsLimited(t *testing.T) {
	const most = 1<<31 - 1
	s := New()
	var want []api.Count
	for sig := 1; sig <= api.MaxSig; sig++ {
		s.Handle(sig, true)
		s.counts[sig] = most - 2
		for _, n := range []int{most - 1, most, most, most} {
			if e := s.Raise(sig); e != api.OK || s.Count(sig) != n {
				t.Fatalf("Raise(%d) = %v, then Count = %d, want %d", sig, e, s.Count(sig), n)
			}
		}
		want = append(want, api.Count{Sig: sig, N: most})
		if n := s.Pending(); int64(n) != int64(sig)*most {
			t.Fatalf("Pending of %d signals = %d", sig, n)
		}
	}
	if l := s.Take(); !slices.Equal(l, want) {
		t.Errorf("Take = %v", l)
	}
	if e := s.Raise(3); e != api.OK || s.Count(3) != 1 {
		t.Errorf("Raise behind Take = %v, Count = %d", e, s.Count(3))
	}
}

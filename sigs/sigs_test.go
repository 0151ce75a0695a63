package sigs_test

import (
	"math"
	"slices"
	"testing"

	"roundhouse/api"
	"roundhouse/sigs"
)

// outside are numbers that are no signals.
func outside() []int {
	return []int{math.MinInt, math.MinInt32, -32, -31, -1, 0, 32, 33, 62, 63, 64, 256, 257, 1 << 32, 1<<32 + 1, math.MaxInt}
}

// holds fails unless the table says of every number what the plain one says, by every call that tells of it.
func holds(t *testing.T, s *sigs.Sigs, p plain) {
	t.Helper()
	for range 2 { // to tell of it changes nothing
		for sig := 1; sig <= api.MaxSig; sig++ {
			count, on := p[sig]
			if is := s.Handled(sig); is != on {
				t.Fatalf("Handled(%d) = %v", sig, is)
			}
			if n := s.Count(sig); n != count {
				t.Fatalf("Count(%d) = %d, want %d", sig, n, count)
			}
		}
		for _, n := range outside() {
			if s.Handled(n) || s.Count(n) != 0 {
				t.Fatalf("Handled(%d) = %v, Count = %d", n, s.Handled(n), s.Count(n))
			}
		}
		if n := s.Pending(); n != p.pending() {
			t.Fatalf("Pending = %d, want %d", n, p.pending())
		}
		if l := s.List(); !slices.Equal(l, p.list()) {
			t.Fatalf("List = %v, want %v", l, p.list())
		}
	}
}

func handle(t *testing.T, s *sigs.Sigs, on bool, l ...int) {
	t.Helper()
	for _, sig := range l {
		if e := s.Handle(sig, on); e != api.OK {
			t.Fatalf("Handle(%d, %v): %v", sig, on, e)
		}
	}
}

func raise(t *testing.T, s *sigs.Sigs, l ...int) {
	t.Helper()
	for _, sig := range l {
		if e := s.Raise(sig); e != api.OK {
			t.Fatalf("Raise(%d): %v", sig, e)
		}
	}
}

func take(t *testing.T, s *sigs.Sigs, want ...api.Count) {
	t.Helper()
	if l := s.Take(); !slices.Equal(l, want) {
		t.Fatalf("Take = %v, want %v", l, want)
	}
}

// some handles 1, 4, 9, 30 and 31; all but 4 are pending.
func some(t *testing.T) (*sigs.Sigs, plain) {
	t.Helper()
	s, p := sigs.New(), plain{1: 1, 4: 0, 9: 2, 30: 1, 31: 3}
	handle(t, s, true, 30, 9, 31, 4, 1)
	raise(t, s, 31, 9, 30, 31, 1, 9, 31)
	holds(t, s, p)
	return s, p
}

func TestExamples(t *testing.T) {
	s := sigs.New()
	handle(t, s, true, 2, 9)
	raise(t, s, 9, 2, 9, 5)
	if n := s.Pending(); n != 3 {
		t.Errorf("Pending = %d", n)
	}
	take(t, s, api.Count{Sig: 2, N: 1}, api.Count{Sig: 9, N: 2})
	if n := s.Pending(); n != 0 {
		t.Errorf("Pending behind Take = %d", n)
	}
	raise(t, s, 2)
	handle(t, s, false, 2)
	take(t, s)
	if e := s.Handle(0, true); e != api.ErrSignal {
		t.Errorf("Handle(0, true) = %v, want ErrSignal", e)
	}
}

// TestEmpty: a new table and a zero one are the same, and each signal can be handled by them.
func TestEmpty(t *testing.T) {
	for name, made := range map[string]func() *sigs.Sigs{
		"new":    sigs.New,
		"zero":   func() *sigs.Sigs { return &sigs.Sigs{} },
		"copied": func() *sigs.Sigs { return sigs.New().Copy() },
	} {
		t.Run(name, func(t *testing.T) {
			holds(t, made(), plain{})
			take(t, made())
			for sig := 1; sig <= api.MaxSig; sig++ {
				s := made()
				raise(t, s, sig)
				handle(t, s, false, sig)
				holds(t, s, plain{})
				handle(t, s, true, sig)
				holds(t, s, plain{sig: 0})
				raise(t, s, sig, sig)
				holds(t, s, plain{sig: 2})
				take(t, s, api.Count{Sig: sig, N: 2})
				holds(t, s, plain{sig: 0})
			}
			holds(t, made(), plain{})
		})
	}
}

func TestNil(t *testing.T) {
	var s *sigs.Sigs
	for _, sig := range append(outside(), 1, 2, 31) {
		for _, on := range []bool{true, false} {
			if e := s.Handle(sig, on); e != api.ErrNil {
				t.Errorf("Handle(%d, %v) = %v, want ErrNil", sig, on, e)
			}
		}
		if e := s.Raise(sig); e != api.ErrNil {
			t.Errorf("Raise(%d) = %v, want ErrNil", sig, e)
		}
	}
	holds(t, s, plain{})
	if take, list, copied := s.Take(), s.List(), s.Copy(); take != nil || list != nil || copied != nil {
		t.Errorf("Take = %v, List = %v, Copy = %v, want nil", take, list, copied)
	}
}

func TestNoSignals(t *testing.T) {
	for _, sig := range outside() {
		s, p := some(t)
		for _, on := range []bool{true, false} {
			if e := s.Handle(sig, on); e != api.ErrSignal {
				t.Errorf("Handle(%d, %v) = %v, want ErrSignal", sig, on, e)
			}
			if e := s.Raise(sig); e != api.ErrSignal {
				t.Errorf("Raise(%d) = %v, want ErrSignal", sig, e)
			}
			holds(t, s, p)
		}
	}
}

// TestHandleAgain: what is handled already stays as often pending as it is.
func TestHandleAgain(t *testing.T) {
	s, p := some(t)
	handle(t, s, true, 31, 9, 4, 31)
	holds(t, s, p)
	raise(t, s, 31)
	p.raise(31)
	holds(t, s, p)
}

// TestHandleNoMore: what was pending when its signal was no longer handled does not come back with it, and other signals stay.
func TestHandleNoMore(t *testing.T) {
	for sig := 1; sig <= api.MaxSig; sig++ {
		s, p := some(t)
		handle(t, s, false, sig)
		p.handle(sig, false)
		holds(t, s, p)
		raise(t, s, sig, sig)
		handle(t, s, false, sig)
		holds(t, s, p)
		handle(t, s, true, sig)
		p.handle(sig, true)
		holds(t, s, p)
		raise(t, s, sig)
		p.raise(sig)
		holds(t, s, p)
		take(t, s, p.take()...)
		holds(t, s, p)
	}
}

func TestRaise(t *testing.T) {
	for sig := 1; sig <= api.MaxSig; sig++ {
		s, p := some(t)
		for range 300 {
			raise(t, s, sig)
			p.raise(sig)
		}
		holds(t, s, p)
		take(t, s, p.take()...)
	}
}

func TestTake(t *testing.T) {
	s, p := some(t)
	take(t, s, api.Count{Sig: 1, N: 1}, api.Count{Sig: 9, N: 2}, api.Count{Sig: 30, N: 1}, api.Count{Sig: 31, N: 3})
	p.take()
	holds(t, s, p)
	take(t, s)
	holds(t, s, p)
	raise(t, s, 4, 9)
	take(t, s, api.Count{Sig: 4, N: 1}, api.Count{Sig: 9, N: 1})
	holds(t, s, p)
}

func TestAllAtOnce(t *testing.T) {
	s, p := sigs.New(), plain{}
	for sig := api.MaxSig; sig >= 1; sig-- {
		handle(t, s, true, sig)
		p.handle(sig, true)
		for range 40 - sig {
			raise(t, s, sig)
			p.raise(sig)
		}
	}
	holds(t, s, p)
	l := s.Take()
	if len(l) != api.MaxSig {
		t.Fatalf("Take = %v", l)
	}
	for i, x := range l {
		if x.Sig != i+1 || x.N != 39-i {
			t.Errorf("%d of Take is %v", i, x)
		}
	}
	p.take()
	holds(t, s, p)
}

func TestTablesAreApart(t *testing.T) {
	s, p := some(t)
	other := sigs.New()
	handle(t, other, true, 5)
	raise(t, other, 5, 9, 5)
	holds(t, s, p)
	holds(t, other, plain{5: 2})
	handle(t, s, true, 5)
	s.Take()
	holds(t, other, plain{5: 2})
}

// TestCopy does to a copy, or to what it was made of, all that can be done: the other one stays.
func TestCopy(t *testing.T) {
	for name, change := range map[string]func(s *sigs.Sigs){
		"handle":  func(s *sigs.Sigs) { s.Handle(7, true) },
		"no more": func(s *sigs.Sigs) { s.Handle(31, false) },
		"raise":   func(s *sigs.Sigs) { s.Raise(9); s.Raise(4) },
		"take":    func(s *sigs.Sigs) { s.Take() },
	} {
		t.Run(name, func(t *testing.T) {
			s, p := some(t)
			copied := s.Copy()
			if copied == s {
				t.Fatal("Copy is the table itself")
			}
			holds(t, copied, p)
			change(copied)
			holds(t, s, p)
			copied = s.Copy()
			change(s)
			holds(t, copied, p)
			take(t, copied, p.take()...)
		})
	}
}

func TestSlicesAreNew(t *testing.T) {
	s, p := some(t)
	first, second := s.List(), s.List()
	clear(first)
	_ = append(first[:1], 77)
	if !slices.Equal(second, p.list()) {
		t.Errorf("a second List is %v", second)
	}
	holds(t, s, p)
	want := p.take()
	taken := s.Take()
	raise(t, s, 1, 4)
	p.raise(1)
	p.raise(4)
	again := s.Copy().Take()
	if !slices.Equal(taken, want) || !slices.Equal(second, p.list()) {
		t.Errorf("later, a Take is %v, a List is %v", taken, second)
	}
	clear(taken)
	_ = append(taken[:0], make([]api.Count, 40)...)
	if !slices.Equal(again, []api.Count{{Sig: 1, N: 1}, {Sig: 4, N: 1}}) {
		t.Errorf("a second Take is %v", again)
	}
	holds(t, s, p)
}

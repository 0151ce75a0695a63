package moves_test

import (
	"math"
	"slices"
	"testing"

	"roundhouse/api"
	"roundhouse/moves"
	"roundhouse/world"
)

// steps is the steps of lines.
func steps(t *testing.T, lines ...string) []api.Step {
	t.Helper()
	text := ""
	for _, line := range lines {
		text += line + "\n"
	}
	l, n, e := moves.Parse(text)
	if e != api.OK {
		t.Fatalf("line %d of %q: %v", n, lines, e)
	}
	return l
}

// script is a script of lines.
func script(t *testing.T, lines ...string) *moves.Script {
	t.Helper()
	s, e := moves.New(steps(t, lines...))
	good(t, "New", e)
	return s
}

// left fails unless just these steps are left.
func left(t *testing.T, s *moves.Script, lines ...string) {
	t.Helper()
	if l := s.Left(); !same(l, steps(t, lines...)) {
		t.Fatalf("Left = %v, want %q", l, lines)
	}
}

// order fails unless the last step's order is that one.
func order(t *testing.T, s *moves.Script, want ...int) {
	t.Helper()
	if l := s.Order(); !slices.Equal(l, want) {
		t.Fatalf("Order = %v, want %v", l, want)
	}
}

// asked is a condition that holds from the n-th time on that it is asked (never: 0), and the ticks at which it was asked.
type asked struct {
	w     *world.World
	n     int
	times []uint64
}

func (a *asked) holds() bool {
	a.times = append(a.times, a.w.Now())
	return a.n > 0 && len(a.times) >= a.n
}

// sleep fails unless a sleep with a condition that never holds ends so, at that tick, and the condition was asked at those.
func sleep(t *testing.T, s *moves.Script, w *world.World, wait uint64, forever bool, want int, now uint64, times ...uint64) {
	t.Helper()
	a := &asked{w: w}
	if n := s.Sleep(w, wait, forever, a.holds); n != want || w.Now() != now {
		t.Fatalf("Sleep = %d at %d, want %d at %d", n, w.Now(), want, now)
	}
	if !slices.Equal(a.times, times) {
		t.Fatalf("the condition was asked at %v, want %v", a.times, times)
	}
}

func TestSleepOfExamples(t *testing.T) {
	s, w := script(t, "step 0", "step 3", "step 4"), world.New()
	sleep(t, s, w, 5, false, api.WokeTime, 5, 0, 3)
	left(t, s, "step 2")
	s, w = script(t), world.New()
	sleep(t, s, w, 0, true, api.WokeStuck, 0, 0)
	sleep(t, s, w, 9, false, api.WokeTime, 9, 0)
}

func TestNewRefuses(t *testing.T) {
	for _, l := range [][]api.Step{
		make([]api.Step, 2001), {{Order: []int{1000}}}, {{}, {Order: []int{-1}}}, {{Order: make([]int, 51)}}, {{Moves: raises(51)}}, {{}, {}, {Moves: []api.Move{{}}}},
		append(make([]api.Step, 1999), api.Step{Moves: []api.Move{{Op: api.MovePut}}}),
	} {
		if s, e := moves.New(l); s != nil || e != api.ErrStep {
			t.Errorf("New of %d steps = %v, %v, want ErrStep", len(l), s, e)
		}
	}
	for _, m := range someMoves() {
		if s, e := moves.New([]api.Step{{Moves: []api.Move{m}}}); (e == api.OK) != may(m) || (s != nil) != may(m) || e != api.OK && e != api.ErrStep {
			t.Fatalf("New with %d %d %d and %d bytes: %v", m.Op, m.Wire, m.N, len(m.Data), e)
		}
	}
}

func TestNew(t *testing.T) {
	for _, l := range [][]api.Step{nil, {}, {{}}, make([]api.Step, 2000)} {
		s, e := moves.New(l)
		good(t, "New", e)
		if x := s.Left(); !same(x, l) || s.Order() != nil {
			t.Errorf("New of %d steps: %d are left, Order = %v", len(l), len(x), s.Order())
		}
	}
	for line, x := range texts() {
		s, e := moves.New([]api.Step{x})
		good(t, "New", e)
		left(t, s, line)
		order(t, s)
	}
}

// TestNotMade: a Script that New did not create has nothing, and no sleep of it passes a tick.
func TestNotMade(t *testing.T) {
	w := field(t)
	before := w.Image()
	for name, s := range map[string]*moves.Script{"nil": nil, "zero": {}} {
		if s.Left() != nil || s.Order() != nil {
			t.Errorf("%s: Left = %v, Order = %v", name, s.Left(), s.Order())
		}
		for _, x := range []*world.World{w, nil, {}} {
			for _, forever := range []bool{false, true} {
				for _, wait := range []uint64{0, 5, api.Never} {
					if n := s.Sleep(x, wait, forever, nil); n != api.WokeStuck {
						t.Errorf("%s: Sleep = %d, want WokeStuck", name, n)
					}
					if n := s.Sleep(x, wait, forever, func() bool { return true }); n != api.WokeStuck {
						t.Errorf("%s: Sleep = %d, want WokeStuck", name, n)
					}
				}
			}
		}
	}
	if !slices.Equal(w.Image(), before) {
		t.Errorf("the world is %q, was %q", w.Image(), before)
	}
}

// TestNoWorld: in a World that New did not create nothing comes to pass.
func TestNoWorld(t *testing.T) {
	s := script(t, "step 0 order 1", "step 0 intr", "step 5 raise 1")
	for _, w := range []*world.World{nil, {}} {
		for _, forever := range []bool{false, true} {
			for _, wait := range []uint64{0, 7, api.Never} {
				n := s.Sleep(w, wait, forever, func() bool {
					t.Error("the condition is asked")
					return true
				})
				if n != api.WokeStuck || s.Sleep(w, wait, forever, nil) != api.WokeStuck {
					t.Errorf("Sleep = %d, want WokeStuck", n)
				}
			}
		}
	}
	left(t, s, "step 0 order 1", "step 0 intr", "step 5 raise 1")
	order(t, s)
}

// TestWorldWithoutDescriptors is one that New created, with the least there can be, or with all the descriptors.
func TestWorldWithoutDescriptors(t *testing.T) {
	full := world.New()
	for range api.MaxFd + 1 {
		full.Outer(1)
	}
	for _, w := range []*world.World{world.New(), full} {
		s := script(t, "step 2")
		sleep(t, s, w, 5, false, api.WokeTime, 5, 0, 2)
		left(t, s)
	}
}

func TestSleepByTime(t *testing.T) {
	for _, x := range []struct {
		lines []string
		wait  uint64
		now   uint64
		left  []string
		times []uint64
	}{
		{nil, 0, 0, nil, []uint64{0}},
		{nil, 1, 1, nil, []uint64{0}},
		{nil, math.MaxUint64, math.MaxUint64, nil, []uint64{0}},
		{[]string{"step 3 raise 1"}, 0, 0, []string{"step 3 raise 1"}, []uint64{0}},
		{[]string{"step 3 raise 1"}, 2, 2, []string{"step 1 raise 1"}, []uint64{0}},
		{[]string{"step 3 raise 1"}, 3, 3, nil, []uint64{0, 3}},
		{[]string{"step 3 raise 1"}, 4, 4, nil, []uint64{0, 3}},
		{[]string{"step 3", "step 0", "step 5"}, 3, 3, []string{"step 0", "step 5"}, []uint64{0, 3}},
		{[]string{"step 3", "step 0", "step 5"}, 4, 4, []string{"step 4"}, []uint64{0, 3, 3}},
		{[]string{"step 0", "step 0", "step 1", "step 1"}, 0, 0, []string{"step 1", "step 1"}, []uint64{0}},
		{[]string{"step 1", "step 1", "step 1"}, 2, 2, []string{"step 1"}, []uint64{0, 1, 2}},
		{[]string{"step 18446744073709551615"}, 9, 9, []string{"step 18446744073709551606"}, []uint64{0}},
		{[]string{"step 18446744073709551615"}, math.MaxUint64 - 1, math.MaxUint64 - 1, []string{"step 1"}, []uint64{0}},
		{[]string{"step 18446744073709551615", "step 1"}, math.MaxUint64, math.MaxUint64, []string{"step 1"}, []uint64{0, math.MaxUint64}},
	} {
		s, w := script(t, x.lines...), world.New()
		sleep(t, s, w, x.wait, false, api.WokeTime, x.now, x.times...)
		left(t, s, x.left...)
		s, w = script(t, x.lines...), world.New()
		if n := s.Sleep(w, x.wait, false, nil); n != api.WokeTime || w.Now() != x.now { // nil never holds
			t.Errorf("%q: Sleep of %d = %d at %d", x.lines, x.wait, n, w.Now())
		}
		left(t, s, x.left...)
	}
}

func TestSleepForever(t *testing.T) {
	for _, wait := range []uint64{0, 1, 4, api.Never} { // which does not count
		s, w := script(t, "step 0", "step 3", "step 0", "step 4 order 9"), world.New()
		sleep(t, s, w, wait, true, api.WokeStuck, 7, 0, 3, 3, 7)
		left(t, s)
		order(t, s, 9)
		sleep(t, s, w, wait, true, api.WokeStuck, 7, 7)
		s, w = script(t, "step 5", "step 2"), world.New()
		if n := s.Sleep(w, wait, true, nil); n != api.WokeStuck || w.Now() != 7 {
			t.Errorf("Sleep = %d at %d", n, w.Now())
		}
	}
	// More ticks than the world can count, in all: each step is taken nevertheless.
	s, w := script(t, "step 18446744073709551615", "step 18446744073709551615", "step 7 order 1"), world.New()
	sleep(t, s, w, 3, true, api.WokeStuck, math.MaxUint64, 0, math.MaxUint64, math.MaxUint64, math.MaxUint64)
	order(t, s, 1)
}

// TestSleepAtTheLastTick: a world that can count no further does not change what a sleep does.
func TestSleepAtTheLastTick(t *testing.T) {
	s, w := script(t, "step 3 order 1", "step 3 order 2", "step 9"), world.New()
	w.Pass(math.MaxUint64 - 1)
	sleep(t, s, w, 8, false, api.WokeTime, math.MaxUint64, math.MaxUint64-1, math.MaxUint64, math.MaxUint64)
	order(t, s, 2)
	left(t, s, "step 7")
}

func TestSleepByIntr(t *testing.T) {
	s, w := script(t, "step 0 order 1", "step 0 intr order 2 shut 0", "step 0", "step 4 intr", "step 0 intr order 5", "step 9"), world.New()
	_, _, e := w.Outer(1)
	good(t, "Outer", e)
	sleep(t, s, w, 7, false, api.WokeIntr, 0) // not asked at all
	order(t, s, 2)
	if n, e := w.Put(0, []byte("a")); n != 0 || e != api.ErrPipe {
		t.Errorf("its moves are not made: Put = %d, %v", n, e)
	}
	left(t, s, "step 0", "step 4 intr", "step 0 intr order 5", "step 9")
	sleep(t, s, w, 4, false, api.WokeIntr, 4, 0) // also when its last tick has passed
	order(t, s)
	left(t, s, "step 0 intr order 5", "step 9")
	sleep(t, s, w, 0, true, api.WokeIntr, 4)
	order(t, s, 5)
	sleep(t, s, w, 3, false, api.WokeTime, 7, 4)
	left(t, s, "step 6")
	s, w = script(t, "step 2", "step 2 intr"), world.New()
	sleep(t, s, w, 0, true, api.WokeIntr, 4, 0, 2)
	sleep(t, s, w, 0, true, api.WokeStuck, 4, 4)
}

func TestSleepHolds(t *testing.T) {
	lines := []string{"step 0 order 1", "step 3 order 2", "step 0 order 3", "step 4 order 4"}
	for _, x := range []struct {
		n       int
		wait    uint64
		forever bool
		now     uint64
		order   int
		left    []string
		times   []uint64
	}{
		{1, 0, false, 0, 1, lines[1:], []uint64{0}}, // it is asked before the ticks are
		{1, 9, false, 0, 1, lines[1:], []uint64{0}},
		{1, 9, true, 0, 1, lines[1:], []uint64{0}},
		{2, 3, false, 3, 2, lines[2:], []uint64{0, 3}},
		{2, 9, false, 3, 2, lines[2:], []uint64{0, 3}},
		{3, 4, false, 3, 3, lines[3:], []uint64{0, 3, 3}},
		{4, 7, false, 7, 4, nil, []uint64{0, 3, 3, 7}},
		{4, 0, true, 7, 4, nil, []uint64{0, 3, 3, 7}}, // and before it is stuck
	} {
		s, w := script(t, lines...), world.New()
		a := &asked{w: w, n: x.n}
		if n := s.Sleep(w, x.wait, x.forever, a.holds); n != api.WokeHolds || w.Now() != x.now || !slices.Equal(a.times, x.times) {
			t.Fatalf("%+v: Sleep = %d at %d, asked at %v", x, n, w.Now(), a.times)
		}
		order(t, s, x.order)
		left(t, s, x.left...)
	}
}

// TestSleepUntilReady: what the steps do lets the condition hold.
func TestSleepUntilReady(t *testing.T) {
	w := field(t)
	w.Read(0, 9)
	s := script(t, "step 2 take 0 5", "step 3 put 0 6162 put 0 63", "step 0 put 0 64", "step 5 close 0")
	in := func() bool { return w.Ready(0).In }
	if n := s.Sleep(w, 99, false, in); n != api.WokeHolds || w.Now() != 5 {
		t.Fatalf("Sleep = %d at %d", n, w.Now())
	}
	if b, end, e := w.Read(0, 9); string(b) != "abc" || end || e != api.OK {
		t.Fatalf("Read = %q, %v, %v", b, end, e)
	}
	left(t, s, "step 0 put 0 64", "step 5 close 0")
	if n := s.Sleep(w, 1, false, in); n != api.WokeHolds || w.Now() != 5 {
		t.Fatalf("Sleep = %d at %d", n, w.Now())
	}
	if n := s.Sleep(w, 1, true, func() bool { return w.Ready(0).Hup }); n != api.WokeHolds || w.Now() != 10 {
		t.Fatalf("Sleep = %d at %d", n, w.Now())
	}
}

// TestMovesAreMadeInOrder, whatever they return.
func TestMovesAreMadeInOrder(t *testing.T) {
	w := field(t)
	s := script(t, "step 1 raise 0 put 9 61 connect 1 9 connect 1 9 connect 1 9 close 3 put 4 61 put 3 61 raise 3 take 0 2 put 0 64 shut 0 put 0 65 shut 7 raise 3 raise 99")
	sleep(t, s, w, 1, false, api.WokeTime, 1, 0, 1)
	want := []string{
		"now 1", "fd 0 wire 0 end 0", "fd 1 wire 1 end 2", "fd 2 wire 2 end 0", "fd 3 wire 2 end 1",
		"wire 0 in 61626364/8 out shut 333435/8", "wire 1 listen 2 3 4", "wire 2 in /3 in -", "wire 3 none /9 closed /9", "wire 4 none 61/9 out /9", "signal 3 2",
	}
	if l := w.Image(); !slices.Equal(l, want) {
		t.Errorf("Image = %q, want %q", l, want)
	}
}

// TestConditionSeesTheScript: while the condition is asked the script is as the sleep left it, and may even sleep itself.
func TestConditionSeesTheScript(t *testing.T) {
	s, w := script(t, "step 0 order 1", "step 2 order 2", "step 3 order 3"), world.New()
	var orders []int
	var many []int
	n := s.Sleep(w, 0, true, func() bool {
		orders, many = append(orders, s.Order()...), append(many, len(s.Left()))
		return false
	})
	if n != api.WokeStuck || !slices.Equal(orders, []int{1, 2, 3}) || !slices.Equal(many, []int{2, 1, 0}) {
		t.Errorf("Sleep = %d, orders %v, left %v", n, orders, many)
	}
	s, w = script(t, "step 1", "step 1", "step 1", "step 1"), world.New()
	n = s.Sleep(w, 3, false, func() bool {
		s.Sleep(w, 9, true, nil)
		return false
	})
	if n != api.WokeTime || w.Now() != 7 || s.Left() != nil {
		t.Errorf("Sleep = %d at %d, left %v", n, w.Now(), s.Left())
	}
}

// TestConditionThatPanics does not hold: the sleep goes on as if it never did.
func TestConditionThatPanics(t *testing.T) {
	for _, x := range []struct {
		wait      uint64
		forever   bool
		want, now int
		asked     int
	}{{4, false, api.WokeTime, 4, 2}, {9, false, api.WokeIntr, 5, 2}, {0, true, api.WokeIntr, 5, 2}, {0, false, api.WokeTime, 0, 1}} {
		s, w := script(t, "step 3 raise 3", "step 2 intr"), world.New()
		asked := 0
		n := s.Sleep(w, x.wait, x.forever, func() bool {
			asked++
			panic("a condition's own")
		})
		if n != x.want || w.Now() != uint64(x.now) || asked != x.asked {
			t.Errorf("Sleep of %d, %v = %d at %d, asked %d times, want %d at %d, %d times", x.wait, x.forever, n, w.Now(), asked, x.want, x.now, x.asked)
		}
	}
}

// TestScriptKeepsNothing: what New was given, and what is answered, may be written over.
func TestScriptKeepsNothing(t *testing.T) {
	lines := []string{"step 2 order 1,2 put 0 6162 raise 3", "step 5 order 3 put 0 63"}
	given := steps(t, lines...)
	before := plainText(given)
	s, e := moves.New(given)
	good(t, "New", e)
	w := world.New()
	_, _, e = w.Outer(9)
	good(t, "Outer", e)
	overwrite(given)
	overwrite(s.Left())
	left(t, s, lines...)
	given = steps(t, lines...)
	s, _ = moves.New(given)
	sleep(t, s, w, 4, false, api.WokeTime, 4, 0, 2)
	if plainText(given) != before {
		t.Errorf("a sleep made %v of what New was given", given)
	}
	o := s.Order()
	clear(o)
	_ = append(o[:1], 9)
	order(t, s, 1, 2)
	overwrite(s.Left())
	left(t, s, "step 3 order 3 put 0 63")
	sleep(t, s, w, 4, true, api.WokeStuck, 7, 4, 7)
	if b, _, e := w.Read(0, 9); string(b) != "abc" || e != api.OK {
		t.Errorf("Read = %q, %v", b, e)
	}
	order(t, s, 3)
}

// overwrite writes into all of some steps.
func overwrite(l []api.Step) {
	for i := range l {
		for j := range l[i].Moves {
			clear(l[i].Moves[j].Data)
		}
		clear(l[i].Moves)
		clear(l[i].Order)
	}
	clear(l)
}

// TestScriptsAreApart: of two scripts of the same steps each one proceeds by itself.
func TestScriptsAreApart(t *testing.T) {
	l := steps(t, "step 2 order 1", "step 3")
	r, _ := moves.New(l)
	s, _ := moves.New(l)
	sleep(t, r, world.New(), 4, false, api.WokeTime, 4, 0, 2)
	left(t, r, "step 1")
	left(t, s, "step 2 order 1", "step 3")
	order(t, s)
}

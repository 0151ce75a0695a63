package moves_test

import (
	"fmt"
	"slices"
	"testing"

	"roundhouse/api"
	"roundhouse/moves"
	"roundhouse/world"
)

// noise gives numbers that look random, and are the same in each run.
type noise uint64

func (z *noise) below(n int) int {
	*z = *z*6364136223846793005 + 1442695040888963407
	return int(uint64(*z>>33) % uint64(n))
}

// plain is a script told tick by tick. The tests hold a Script against it.
type plain struct {
	w     *world.World
	steps []api.Step
	order []int
}

// take takes the first step, and says whether it interrupts.
func (p *plain) take() bool {
	x := p.steps[0]
	p.steps = p.steps[1:]
	for _, m := range x.Moves {
		direct(p.w, m)
	}
	p.order = x.Order
	return x.Intr
}

func (p *plain) sleep(wait uint64, forever bool, holds func() bool) int {
	for len(p.steps) > 0 && p.steps[0].Ticks == 0 {
		if p.take() {
			return api.WokeIntr
		}
	}
	slept := uint64(0)
	for {
		if holds() {
			return api.WokeHolds
		}
		if slept == wait && !forever {
			return api.WokeTime
		}
		if len(p.steps) == 0 && forever {
			return api.WokeStuck
		}
		for len(p.steps) == 0 || p.steps[0].Ticks > 0 {
			if slept == wait && !forever {
				return api.WokeTime
			}
			slept++
			p.w.Pass(1)
			if len(p.steps) > 0 {
				p.steps[0].Ticks--
			}
		}
		if p.take() {
			return api.WokeIntr
		}
	}
}

// someSteps are random ones, for the world of field.
func (z *noise) someSteps() []api.Step {
	l := make([]api.Step, z.below(7))
	for i := range l {
		l[i] = api.Step{Ticks: uint64(max(0, z.below(7)-2)), Intr: z.below(6) == 0}
		for range z.below(3) {
			l[i].Order = append(l[i].Order, z.below(1000))
		}
		for range z.below(4) {
			l[i].Moves = append(l[i].Moves, z.someMove())
		}
	}
	return l
}

func (z *noise) someMove() api.Move {
	m := api.Move{Op: 1 + z.below(7)}
	r := rows()[m.Op]
	if r.wire {
		m.Wire = z.below(5)
	}
	if r.n {
		m.N = z.below(5)
	}
	if r.data {
		m.Data = []byte("abcdef")[:1+z.below(6)]
	}
	return m
}

// someCondition is a condition in a world; of two worlds in which the same comes to pass it says the same.
func someCondition(kind int, w *world.World) func() bool {
	switch kind {
	case 0:
		return func() bool { return w.Ready(0).In }
	case 1:
		return func() bool { return w.Ready(1).In }
	case 2:
		return func() bool { return w.Pending() > 0 }
	case 3:
		return func() bool { return w.Now()%4 == 3 }
	}
	return func() bool { return false }
}

// state is all that can be told of a world and the steps that are left.
func state(w *world.World, left []api.Step, order []int) string {
	return fmt.Sprint(w.Image(), w.Ready(0), w.Ready(1), plainText(left), len(order), order)
}

// TestWalk lets random scripts proceed by random sleeps: each ends as it does tick by tick, at the same state, and asks its condition as often, at the same states.
func TestWalk(t *testing.T) {
	z, ends := noise(12), map[int]int{}
	for range 4000 {
		l := z.someSteps()
		s, e := moves.New(l)
		good(t, "New", e)
		w, p := field(t), &plain{w: field(t), steps: steps(t, lines(l)...)}
		for range 1 + z.below(5) {
			wait, forever, kind := uint64(z.below(9)), z.below(4) == 0, z.below(7)
			var said, want []string
			n := s.Sleep(w, wait, forever, func() bool {
				said = append(said, state(w, s.Left(), s.Order()))
				return someCondition(kind, w)()
			})
			m := p.sleep(wait, forever, func() bool {
				want = append(want, state(p.w, p.steps, p.order))
				return someCondition(kind, p.w)()
			})
			ends[n]++
			got, plain := state(w, s.Left(), s.Order()), state(p.w, p.steps, p.order)
			if n != m || got != plain || !slices.Equal(said, want) {
				t.Fatalf("%q: Sleep of %d, %v = %d, want %d\n%s\nwant\n%s\nasked %q\nwant %q", plainText(l), wait, forever, n, m, got, plain, said, want)
			}
			w.Read(0, 2) // both worlds go on alike
			p.w.Read(0, 2)
			w.Signals()
			p.w.Signals()
		}
	}
	if len(ends) != 4 || ends[api.WokeHolds]*ends[api.WokeTime]*ends[api.WokeIntr]*ends[api.WokeStuck] == 0 {
		t.Errorf("how the sleeps ended: %v", ends)
	}
}

// lines is the texts of steps.
func lines(l []api.Step) []string {
	var out []string
	for i := range l {
		s := plainText(l[i : i+1])
		out = append(out, s[:len(s)-1])
	}
	return out
}

// TestSleepIsNoLonger: of a sleep that is not forever at most its ticks pass, of one that ends by time all of them.
func TestSleepIsNoLonger(t *testing.T) {
	z := noise(6)
	for range 4000 {
		s, e := moves.New(z.someSteps())
		good(t, "New", e)
		w := field(t)
		w.Read(0, 9)
		for range 6 {
			wait, from := uint64(z.below(9)), w.Now()
			n := s.Sleep(w, wait, false, someCondition(z.below(7), w))
			if passed := w.Now() - from; passed > wait || n == api.WokeTime && passed != wait || n == api.WokeStuck {
				t.Fatalf("Sleep of %d = %d, and %d ticks passed", wait, n, passed)
			}
		}
	}
}

// TestTwoSleepsAreOne: a sleep that ends by time and one more are one of both durations, unless a step of 0 ticks is left at the end of the first.
func TestTwoSleepsAreOne(t *testing.T) {
	z, tried := noise(2), 0
	for range 8000 {
		l := z.someSteps()
		r, _ := moves.New(l)
		s, _ := moves.New(l)
		v, w := field(t), field(t)
		a, b := uint64(z.below(9)), uint64(z.below(9))
		if r.Sleep(v, a, false, nil) != api.WokeTime || len(r.Left()) > 0 && r.Left()[0].Ticks == 0 {
			continue
		}
		tried++
		m, n := r.Sleep(v, b, false, nil), s.Sleep(w, a+b, false, nil)
		x, y := state(v, r.Left(), r.Order()), state(w, s.Left(), s.Order())
		if m != n || x != y {
			t.Fatalf("%q: sleeps of %d and %d = %d, of both = %d\n%s\n%s", plainText(l), a, b, m, n, x, y)
		}
	}
	if tried < 1000 {
		t.Errorf("only %d were tried", tried)
	}
}

// TestParseOfText: the steps come back.
func TestParseOfText(t *testing.T) {
	z := noise(3)
	for range 4000 {
		l := z.someSteps()
		s, e := moves.Text(l)
		if want := plainText(l); s != want || e != api.OK {
			t.Fatalf("Text = %q, %v, want %q", s, e, want)
		}
		if back, n, e := moves.Parse(s); !same(back, l) || n != 0 || e != api.OK {
			t.Fatalf("Parse(%q) = %v, %d, %v", s, back, n, e)
		}
	}
}

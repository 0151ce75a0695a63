package moves

import (
	"slices"

	"roundhouse/api"
	"roundhouse/world"
)

// Script is steps that were not taken yet.
type Script struct {
	k *kept // nil unless New made the Script
}

// kept is what a Script that New made has.
type kept struct {
	left  []api.Step
	order []int // of the step that was taken last
}

// New is a script of steps, or ErrStep if they are none.
func New(l []api.Step) (*Script, api.Errno) {
	if e := checkAll(l); e != api.OK {
		return nil, e
	}
	return &Script{k: &kept{left: clone(l)}}, api.OK
}

// Sleep sleeps in a world, in which steps are taken meanwhile, until holds does, or its ticks have passed (unless it is forever), or a step interrupts it, or nothing will ever come; it answers which of these.
func (s *Script) Sleep(w *world.World, wait uint64, forever bool, holds func() bool) int {
	if !s.made() || !made(w) {
		return api.WokeStuck
	}
	return s.k.sleep(w, wait, forever, func() bool { return ask(holds) })
}

// Left is the steps that were not taken yet, the first one with the ticks that remain of it.
func (s *Script) Left() []api.Step {
	if !s.made() {
		return nil
	}
	return clone(s.k.left)
}

// Order is the order of the step that was taken last.
func (s *Script) Order() []int {
	if !s.made() {
		return nil
	}
	return slices.Clone(s.k.order)
}

// made says whether New made the script.
func (s *Script) made() bool {
	return s != nil && s.k != nil
}

// made says whether New of layer 11 made the world.
func made(w *world.World) bool {
	// No descriptor is negative: the answer is an error in each world, but which one tells, and nothing changes.
	_, e := w.Wire(-1)
	return e != api.ErrNil
}

// ask says whether a condition holds: one that is nil, or that panics, does not. A panic ends here, as no call of this package panics, whatever it is given.
func ask(holds func() bool) bool {
	defer func() { _ = recover() }()
	return holds != nil && holds()
}

func (k *kept) sleep(w *world.World, rest uint64, forever bool, holds func() bool) int {
	for k.due() {
		if k.take(w) {
			return api.WokeIntr
		}
	}
	for !holds() {
		switch {
		case rest == 0 && !forever:
			return api.WokeTime
		case len(k.left) == 0 && forever:
			return api.WokeStuck
		case !forever && !k.within(rest):
			k.pass(w, rest)
			return api.WokeTime
		}
		ticks := k.left[0].Ticks
		if !forever {
			rest -= ticks
		}
		k.pass(w, ticks)
		if k.take(w) {
			return api.WokeIntr
		}
	}
	return api.WokeHolds
}

// due says whether there is a step, and it comes now.
func (k *kept) due() bool {
	return k.within(0)
}

// within says whether there is a step, and it comes in n ticks at the latest.
func (k *kept) within(n uint64) bool {
	return len(k.left) > 0 && k.left[0].Ticks <= n
}

// pass lets ticks pass, no more than the first step has, if there is one.
func (k *kept) pass(w *world.World, n uint64) {
	w.Pass(n)
	if len(k.left) > 0 {
		k.left[0].Ticks -= n
	}
}

// take takes the first step, and says whether it interrupts.
func (k *kept) take(w *world.World) bool {
	x := k.left[0]
	k.left[0] = api.Step{} // so that what was taken is not kept
	k.left = k.left[1:]
	k.order = x.Order
	for _, m := range x.Moves {
		Make(w, m) // whatever it answers: the rest comes all the same
	}
	return x.Intr
}

// clone is steps that share nothing with these.
func clone(l []api.Step) []api.Step {
	var out []api.Step
	for _, x := range l {
		x.Order = slices.Clone(x.Order)
		x.Moves = slices.Clone(x.Moves)
		for i := range x.Moves {
			x.Moves[i].Data = slices.Clone(x.Moves[i].Data)
		}
		out = append(out, x)
	}
	return out
}

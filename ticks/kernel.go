package ticks

import "roundhouse/api"

// fine is what a tick is in the smaller numbers of kqueue, as api.PerTick is in those of select.
const fine = 1_000_000

// noLimit stands in the kernels' numbers for a wait without limit.
const noLimit = -1

// Pair is a wait in the two numbers of select (small is api.PerTick) or of kqueue (small is 1,000,000).
func Pair(wait uint64, small int) (count, rest int64, e api.Errno) {
	count, rest = int64(wait/api.PerCount), int64(wait%api.PerCount)
	switch small {
	case fine:
		rest *= fine / api.PerTick
		fallthrough // kqueue's form is select's, with smaller numbers that are finer
	case api.PerTick:
		rest *= api.PerTick
	default:
		return 0, 0, api.ErrArg
	}
	switch {
	case wait == api.Never:
		return noLimit, noLimit, api.OK
	case wait > api.MaxWait:
		return 0, 0, api.ErrArg
	}
	return count, rest, api.OK
}

// FromPair is the wait that Pair turns into these two numbers, or ErrArg if there is none.
func FromPair(count, rest int64, small int) (uint64, api.Errno) {
	wait := uint64(api.Never)
	if count != noLimit || rest != noLimit {
		// Numbers of no wait may wrap round here, or be cut: Pair does not give them back.
		wait = uint64(count)*api.PerCount + uint64(rest)/uint64(max(small, 1))
	}
	if c, r, e := Pair(wait, small); e != api.OK || c != count || r != rest {
		return 0, api.ErrArg
	}
	return wait, api.OK
}

// Single is a wait in the number of poll.
func Single(wait uint64) (int, api.Errno) {
	switch {
	case wait == api.Never:
		return noLimit, api.OK
	case wait > api.MaxWait:
		return 0, api.ErrArg
	}
	return int(wait), api.OK
}

// FromSingle is the wait that Single turns into this number, or ErrArg if there is none.
func FromSingle(n int) (uint64, api.Errno) {
	switch {
	case n == noLimit:
		return api.Never, api.OK
	case n < 0 || n > api.MaxWait:
		return 0, api.ErrArg
	}
	return uint64(n), api.OK
}

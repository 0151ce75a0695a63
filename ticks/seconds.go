package ticks

import (
	"math"

	"roundhouse/api"
)

// perSecond is how many ticks a second has.
const perSecond = 1000

// Seconds is a wait in seconds; Never is infinitely many.
func Seconds(wait uint64) float64 {
	if wait == api.Never {
		return math.Inf(1)
	}
	return float64(wait) / perSecond
}

// FromSeconds is the least wait that is not shorter than so many seconds.
func FromSeconds(s float64) (uint64, api.Errno) {
	if math.IsNaN(s) || s < 0 {
		return 0, api.ErrArg
	}
	ticks := s * perSecond
	// What a conversion gives for a float beyond uint64 differs between machines.
	if ticks >= 1<<64 {
		return api.Never, api.OK
	}
	return uint64(math.Ceil(ticks)), api.OK
}

package bucket

import "roundhouse/ticks"

// pass adds the tokens of the whole periods between the clock and now, and sets the clock on by these.
func (b *Bucket) pass(now uint64) {
	if now <= b.clock {
		return
	}
	periods := (now - b.clock) / b.Every
	b.clock += periods * b.Every
	// The periods' tokens may be more than an int64 holds: count periods instead.
	if missing := b.missing(); periods >= missing(b.Burst) {
		b.tokens = b.Burst
		return
	}
	b.tokens += int64(periods) * b.Many
}

// missing is a count of the periods that must end until there are n tokens, from what there is now.
func (b *Bucket) missing() func(n int64) uint64 {
	tokens, many := b.tokens, b.Many
	return func(n int64) uint64 {
		if n <= tokens {
			return 0
		}
		return uint64((n-tokens-1)/many) + 1
	}
}

// end is the tick at which so many periods from the clock on have ended, or Never if ticks don't go that far.
func (b *Bucket) end(periods uint64) uint64 {
	return ticks.Deadline(b.clock, periods*b.Every)
}

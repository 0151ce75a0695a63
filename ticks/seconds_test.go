package ticks_test

import (
	"math"
	"math/big"
	"slices"
	"testing"

	"roundhouse/api"
	"roundhouse/ticks"
)

func TestSeconds(t *testing.T) {
	for _, x := range []struct {
		wait uint64
		want float64
	}{
		{0, 0}, {1, 0.001}, {250, 0.25}, {999, 0.999}, {1000, 1}, {2500, 2.5}, {api.MaxWait, 1048.576}, {1 << 63, 9223372036854775.808},
		{never - 1, 18446744073709551.616}, {never, math.Inf(1)},
	} {
		if s := ticks.Seconds(x.wait); s != x.want {
			t.Errorf("Seconds(%d) = %v, want %v", x.wait, s, x.want)
		}
	}
	for _, wait := range several() {
		want := float64(wait) / 1000
		if wait == never {
			want = math.Inf(1)
		}
		if s := ticks.Seconds(wait); s != want {
			t.Errorf("Seconds(%d) = %v, want %v", wait, s, want)
		}
	}
}

// bound is the least number of seconds that, times 1000, is at least 2^64.
func bound() float64 {
	s := float64(1<<64) / 1000
	for s*1000 >= 1<<64 {
		s = math.Nextafter(s, 0)
	}
	return math.Nextafter(s, math.Inf(1))
}

func TestFromSeconds(t *testing.T) {
	below := math.Nextafter(bound(), 0)
	for _, x := range []struct {
		s    float64
		want uint64
	}{
		{0, 0}, {math.Copysign(0, -1), 0}, {2.5, 2500}, {1, 1000}, {0.001, 1}, {0.0005, 1}, {0.0001, 1}, {0.0015, 2}, {0.9995, 1000},
		{math.SmallestNonzeroFloat64, 1}, {math.Nextafter(1, 2), 1001}, {math.Nextafter(1, 0), 1000}, {1e6, 1e9}, {1048.576, api.MaxWait},
		{1 << 53, 9007199254740992000}, {below, uint64(below * 1000)},
		{bound(), never}, {math.Nextafter(bound(), math.Inf(1)), never}, {1e17, never}, {1 << 64, never}, {1e300, never},
		{math.MaxFloat64, never}, {math.Inf(1), never},
	} {
		if wait, e := ticks.FromSeconds(x.s); wait != x.want || e != api.OK {
			t.Errorf("FromSeconds(%v) = %d, %v, want %d", x.s, wait, e, x.want)
		}
	}
	if wait, _ := ticks.FromSeconds(below); wait < 1<<64-4096 || wait == never {
		t.Errorf("just below 2^64 are %d ticks", wait)
	}
}

func TestFromSecondsRefuses(t *testing.T) {
	for _, s := range []float64{math.NaN(), -math.NaN(), math.Inf(-1), -1, -0.001, -1e300, -math.MaxFloat64, -math.SmallestNonzeroFloat64} {
		if wait, e := ticks.FromSeconds(s); wait != 0 || e != api.ErrArg {
			t.Errorf("FromSeconds(%v) = %d, %v, want ErrArg", s, wait, e)
		}
	}
}

// someSeconds are numbers of seconds of all sizes, sorted.
func someSeconds() []float64 {
	l := []float64{0, 0.0001, 0.0005, 0.001, 0.0011, 1, bound(), math.Inf(1), math.MaxFloat64}
	for _, n := range several() {
		s := float64(n) / 1000
		l = append(l, s, math.Nextafter(s, 0), math.Nextafter(s, math.Inf(1)), float64(n)/1e12, math.Ldexp(float64(n), -80))
	}
	slices.Sort(l)
	return l
}

// ceiling is what FromSeconds promises, computed by numbers that do not round.
func ceiling(s float64) uint64 {
	product := s * 1000
	if math.IsInf(product, 1) {
		return never
	}
	exact := new(big.Float).SetPrec(2000).SetFloat64(product)
	whole, accuracy := exact.Int(nil)
	if accuracy == big.Below {
		whole.Add(whole, big.NewInt(1))
	}
	if !whole.IsUint64() {
		return never
	}
	return whole.Uint64()
}

func TestFromSecondsIsTheCeiling(t *testing.T) {
	for _, s := range someSeconds() {
		if wait, e := ticks.FromSeconds(s); wait != ceiling(s) || e != api.OK {
			t.Errorf("FromSeconds(%v) = %d, %v, want %d", s, wait, e, ceiling(s))
		}
	}
}

// TestMoreSecondsAreNotFewerTicks holds the last of the consequences.
func TestMoreSecondsAreNotFewerTicks(t *testing.T) {
	last := uint64(0)
	for _, s := range someSeconds() {
		wait, e := ticks.FromSeconds(s)
		if e != api.OK || wait < last {
			t.Errorf("FromSeconds(%v) = %d, %v, after %d of fewer seconds", s, wait, e, last)
		}
		last = wait
	}
}

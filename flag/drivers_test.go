package flag_test

import (
	"math"
	"slices"
	"testing"

	"roundhouse/api"
	"roundhouse/flag"
)

// noDrivers are numbers of no driver.
var noDrivers = []int{0, -1, -4, 5, 6, 8, 15, 1 << 32, 1<<32 + 1, math.MinInt, math.MaxInt}

func TestDrivers(t *testing.T) {
	for _, x := range []struct {
		driver   int
		word     string
		features int
	}{
		{api.Kqueue, "kqueue", api.FeatEdge | api.FeatBig | api.FeatSignals | api.FeatChanges},
		{api.Epoll, "epoll", api.FeatEdge | api.FeatBig | api.FeatChanges},
		{api.Poll, "poll", api.FeatBig},
		{api.Select, "select", 0},
	} {
		if f := flag.Features(x.driver); f != x.features {
			t.Errorf("Features(%d) = %d, want %d", x.driver, f, x.features)
		}
		if s := flag.Name(x.driver); s != x.word {
			t.Errorf("Name(%d) = %q, want %q", x.driver, s, x.word)
		}
		if d := flag.ByName(x.word); d != x.driver {
			t.Errorf("ByName(%q) = %d, want %d", x.word, d, x.driver)
		}
	}
}

func TestNoDriver(t *testing.T) {
	for _, d := range noDrivers {
		if f, s := flag.Features(d), flag.Name(d); f != 0 || s != "" {
			t.Errorf("driver %d: Features = %d, Name = %q, want none", d, f, s)
		}
	}
	for _, s := range []string{"", "none", "Kqueue", "EPOLL", "kqueue ", " poll", "pol", "polls", "epoll+poll", "poll,select", "4", "edge", "select\x00"} {
		if d := flag.ByName(s); d != 0 {
			t.Errorf("ByName(%q) = %d, want 0", s, d)
		}
	}
}

func TestChoose(t *testing.T) {
	for _, x := range []struct {
		need, avoid int
		without     []int
		want        int
	}{
		{0, 0, nil, api.Kqueue}, {0, 0, []int{}, api.Kqueue}, {15, 0, nil, api.Kqueue},
		{api.FeatEdge, api.FeatSignals, nil, api.Epoll}, {api.FeatBig, 0, []int{api.Kqueue}, api.Epoll}, {api.FeatChanges, 0, []int{api.Kqueue}, api.Epoll},
		{api.FeatBig, api.FeatEdge, nil, api.Poll}, {0, api.FeatChanges, nil, api.Poll}, {0, 0, []int{api.Epoll, api.Kqueue}, api.Poll},
		{0, api.FeatBig, nil, api.Select}, {0, 15, nil, api.Select}, {0, 0, []int{api.Poll, api.Epoll, api.Kqueue}, api.Select},
		{0, 0, []int{api.Select}, api.Kqueue}, {0, 0, []int{9, -4, 0, 4 + 1<<32}, api.Kqueue}, {0, 0, []int{4, 4, 9, 4, 4}, api.Epoll},
	} {
		if d, e := flag.Choose(x.need, x.avoid, x.without); d != x.want || e != api.OK {
			t.Errorf("Choose(%d, %d, %v) = %d, %v, want %d", x.need, x.avoid, x.without, d, e, x.want)
		}
	}
}

func TestChooseNone(t *testing.T) {
	for _, x := range []struct {
		need, avoid int
		without     []int
	}{
		{api.FeatEdge, api.FeatChanges, nil}, {api.FeatBig, api.FeatBig, nil}, {15, 15, nil}, {api.FeatSignals, 0, []int{api.Kqueue}},
		{api.FeatSignals, api.FeatEdge, nil}, {api.FeatEdge, 0, []int{api.Kqueue, api.Epoll}}, {0, 0, []int{1, 2, 3, 4}}, {0, api.FeatBig, []int{api.Select}},
	} {
		if d, e := flag.Choose(x.need, x.avoid, x.without); d != 0 || e != api.ErrDriver {
			t.Errorf("Choose(%d, %d, %v) = %d, %v, want ErrDriver", x.need, x.avoid, x.without, d, e)
		}
	}
}

// TestChooseRefuses: a bit that is no feature is told first, even if there is no driver either.
func TestChooseRefuses(t *testing.T) {
	for _, bits := range []int{16, 32, 64, 1 << 31, 1 << 62, -16, -1, math.MinInt} {
		for _, without := range [][]int{nil, {4}, {1, 2, 3, 4}} {
			for mask := range 16 {
				for _, x := range [][2]int{{mask | bits, 0}, {0, mask | bits}, {mask | bits, 15}, {15, mask | bits}, {mask | bits, bits}} {
					if d, e := flag.Choose(x[0], x[1], without); d != 0 || e != api.ErrFlag {
						t.Fatalf("Choose(%d, %d, %v) = %d, %v, want ErrFlag", x[0], x[1], without, d, e)
					}
				}
			}
		}
	}
}

// chosen is Choose told plainly: by lists of who has which feature, the most preferred driver first.
func chosen(need, avoid int, without []int) (int, api.Errno) {
	has := map[int][]int{1: {4, 3}, 2: {4, 3, 2}, 4: {4}, 8: {4, 3}}
	for _, d := range []int{4, 3, 2, 1} {
		fits := !slices.Contains(without, d)
		for bit, l := range has {
			fits = fits && (need&bit == 0 || slices.Contains(l, d)) && (avoid&bit == 0 || !slices.Contains(l, d))
		}
		if fits {
			return d, api.OK
		}
	}
	return 0, api.ErrDriver
}

// withouts is each set of drivers, and each with a number of no driver before, and the first one again behind.
func withouts() [][]int {
	var sets [][]int
	for set := range 16 {
		var l []int
		for d := 1; d <= 4; d++ {
			if set>>(d-1)&1 == 1 {
				l = append(l, d)
			}
		}
		sets = append(sets, l)
		if len(l) > 0 {
			sets = append(sets, append(append([]int{7}, l...), l[0]))
		}
	}
	return sets
}

func TestChooseOfEveryCase(t *testing.T) {
	for need := range 16 {
		for avoid := range 16 {
			for _, without := range withouts() {
				d, e := flag.Choose(need, avoid, without)
				if want, f := chosen(need, avoid, without); d != want || e != f {
					t.Fatalf("Choose(%d, %d, %v) = %d, %v, want %d, %v", need, avoid, without, d, e, want, f)
				}
				if e == api.OK && (flag.Features(d)&need != need || flag.Features(d)&avoid != 0) {
					t.Fatalf("Choose(%d, %d, %v) = %d, which has %d", need, avoid, without, d, flag.Features(d))
				}
			}
		}
	}
}

// TestChooseOfLess: if less is needed or avoided, the chosen driver is at least as preferred.
func TestChooseOfLess(t *testing.T) {
	for need := range 16 {
		for avoid := range 16 {
			for _, without := range withouts() {
				d, _ := flag.Choose(need, avoid, without)
				for less := range 16 {
					if x, _ := flag.Choose(need&less, avoid, without); x < d {
						t.Fatalf("without %v and %d: %d for %d, but %d for %d", without, avoid, d, need, x, need&less)
					}
					if x, _ := flag.Choose(need, avoid&less, without); x < d {
						t.Fatalf("without %v, for %d: %d avoids %d, but %d avoids %d", without, need, d, avoid, x, avoid&less)
					}
				}
			}
		}
	}
}

func TestChooseReadsItsArguments(t *testing.T) {
	all := []int{4, 3, 9, 2, 1, 4}
	for n := range len(all) + 1 {
		without := slices.Clone(all)
		for range 2 { // nothing of the first call is kept
			want, f := chosen(0, 0, all[:n])
			if d, e := flag.Choose(0, 0, without[:n]); d != want || e != f {
				t.Fatalf("Choose without %v = %d, %v, want %d, %v", all[:n], d, e, want, f)
			}
		}
		if !slices.Equal(without, all) {
			t.Fatalf("Choose made %v of its argument", without)
		}
	}
}

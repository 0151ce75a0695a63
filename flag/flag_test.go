package flag_test

import (
	"math"
	"testing"

	"roundhouse/api"
	"roundhouse/flag"
)

// strangers are bits that are no flags of an event.
func strangers() []int {
	l := []int{math.MinInt, -64}
	for n := 6; n < 63; n++ {
		l = append(l, 1<<n)
	}
	return l
}

func TestMay(t *testing.T) {
	for _, x := range []struct {
		mask int
		want bool
	}{
		{0, true}, {api.Persist, true}, {api.Read, true}, {api.Write, true}, {api.Read | api.Write, true}, {api.Read | api.Write | api.Persist, true},
		{api.Signal, true}, {api.Signal | api.Persist, true},
		{api.Read | api.Edge, true}, {api.Write | api.Edge, true}, {api.Read | api.Write | api.Edge, true}, {api.Read | api.Edge | api.Persist, true},
		{api.Edge, false}, {api.Edge | api.Persist, false}, {api.Signal | api.Edge, false}, {api.Signal | api.Edge | api.Persist, false},
		{api.Signal | api.Read, false}, {api.Signal | api.Write, false}, {api.Signal | api.Read | api.Edge, false}, {api.Signal | api.Write | api.Persist, false},
		{api.Timeout, false}, {api.Timeout | api.Read, false}, {api.Timeout | api.Signal, false}, {api.Timeout | api.Persist, false}, {63, false}, {-1, false},
		{api.Active, false}, {api.Active | api.Read, false},
	} {
		if is := flag.May(x.mask); is != x.want {
			t.Errorf("May(%d) = %v, want %v", x.mask, is, x.want)
		}
	}
}

// mayPlainly is May as a list of all masks that there are: no kind, a signal, or a descriptor's sides.
func mayPlainly() map[int]bool {
	may := map[int]bool{}
	for _, l := range [][]int{{0}, {8}, {2}, {4}, {2, 4}, {2, 32}, {4, 32}, {2, 4, 32}} {
		mask := 0
		for _, bit := range l {
			mask += bit
		}
		may[mask], may[mask+16] = true, true
	}
	return may
}

func TestMayOfEveryMask(t *testing.T) {
	may := mayPlainly()
	for mask := range 64 {
		if is := flag.May(mask); is != may[mask] {
			t.Errorf("May(%d) = %v, want %v", mask, is, may[mask])
		}
		for _, bit := range strangers() {
			if flag.May(mask | bit) {
				t.Errorf("May(%d) = true", mask|bit)
			}
		}
	}
}

func TestReady(t *testing.T) {
	for _, x := range []struct{ wants, is, want int }{
		{0, 0, 0}, {api.Read, api.Read, api.Read}, {api.Read, api.Write, 0}, {api.Read | api.Write, api.Write, api.Write}, {api.Write, api.Read | api.Write, api.Write},
		{api.Read | api.Write, api.Read | api.Write, api.Read | api.Write}, {api.Signal, api.Signal, api.Signal}, {api.Signal, api.Read, 0},
		{api.Read | api.Edge, api.Read, api.Read | api.Edge}, {api.Read | api.Edge, api.Write, 0}, {api.Read | api.Edge, api.Edge, 0}, {api.Read, api.Read | api.Edge, api.Read},
		{api.Edge, api.Read | api.Edge, 0}, {api.Read | api.Edge, api.Read | api.Edge, api.Read | api.Edge}, {api.Signal | api.Edge, api.Signal, api.Signal | api.Edge},
		{api.Read, api.Timeout, api.Timeout}, {api.Timeout, 0, 0}, {api.Timeout | api.Edge, api.Timeout, api.Timeout}, {0, api.Timeout, api.Timeout}, {api.Timeout, api.Timeout, api.Timeout},
		{api.Read | api.Persist, api.Read | api.Persist | api.Timeout, api.Read | api.Timeout}, {api.Persist, api.Persist, 0}, {api.Edge, api.Edge, 0},
		{-1, -1, api.Timeout | api.Read | api.Write | api.Signal | api.Edge}, {-1, 0, 0}, {0, -1, api.Timeout}, {api.Active, api.Active, 0}, {math.MinInt, math.MinInt, 0},
	} {
		if ready := flag.Ready(x.wants, x.is); ready != x.want {
			t.Errorf("Ready(%d, %d) = %d, want %d", x.wants, x.is, ready, x.want)
		}
	}
}

// TestReadyOfEveryPair tells bit by bit what is reported of all flags, whatever other bits there are.
func TestReadyOfEveryPair(t *testing.T) {
	for wants := range 64 {
		for is := range 64 {
			want := 0
			for _, bit := range []int{2, 4, 8} {
				if wants&bit != 0 && is&bit != 0 {
					want += bit
				}
			}
			if want != 0 && wants&32 != 0 {
				want += 32
			}
			if is&1 != 0 {
				want++
			}
			for _, more := range []int{0, 64, 1 << 40, math.MinInt} {
				if ready := flag.Ready(wants|more, is|more); ready != want {
					t.Fatalf("Ready(%d, %d) = %d, want %d", wants|more, is|more, ready, want)
				}
			}
		}
	}
}

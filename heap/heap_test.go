package heap_test

import (
	"math"
	"slices"
	"testing"

	"roundhouse/api"
	"roundhouse/heap"
)

const never = api.Never

// filled is a heap with some items.
func filled(t *testing.T, l ...api.Item) *heap.Heap {
	t.Helper()
	h := heap.New()
	for _, x := range l {
		if e := h.Push(x); e != api.OK {
			t.Fatalf("Push(%v): %v", x, e)
		}
	}
	return h
}

// holds fails unless the heap has just these items, in this order, by every call that tells of them.
func holds(t *testing.T, h *heap.Heap, want ...api.Item) {
	t.Helper()
	if l := h.All(); !slices.Equal(l, want) {
		t.Fatalf("All = %v, want %v", l, want)
	}
	if n := h.Len(); n != len(want) {
		t.Fatalf("Len = %d, want %d", n, len(want))
	}
	first := api.Item{}
	if len(want) > 0 {
		first = want[0]
	}
	if x, is := h.Top(); x != first || is != (len(want) > 0) {
		t.Fatalf("Top = %v, %v, want %v", x, is, first)
	}
	for _, x := range want {
		if y, is := h.Find(x.ID); y != x || !is {
			t.Fatalf("Find(%d) = %v, %v, want %v", x.ID, y, is, x)
		}
	}
}

// popped empties the heap item by item, and tries once more.
func popped(h *heap.Heap) []api.Item {
	var l []api.Item
	for range h.Len() + 1 {
		if x, is := h.Pop(); is {
			l = append(l, x)
		}
	}
	return l
}

// ordered are items in order: each is behind the one before it by At, by N alone, or by its ID alone.
func ordered() []api.Item {
	return []api.Item{
		{ID: math.MaxInt, At: 0, N: 0},
		{ID: -5, At: 0, N: 1},
		{ID: -4, At: 0, N: 1},
		{ID: 0, At: 0, N: 1},
		{ID: 4, At: 0, N: 1},
		{ID: 3, At: 0, N: math.MaxUint64},
		{ID: 9, At: 1, N: 0},
		{ID: 8, At: 1, N: 1},
		{ID: 7, At: 1, N: 2},
		{ID: -6, At: 1 << 63, N: 1<<63 - 1},
		{ID: -7, At: 1 << 63, N: 1 << 63},
		{ID: 11, At: never - 1, N: math.MaxUint64},
		{ID: math.MinInt, At: never, N: 0},
		{ID: math.MinInt + 1, At: never, N: 0},
		{ID: 1, At: never, N: 0},
		{ID: math.MaxInt - 1, At: never, N: 0},
		{ID: 2, At: never, N: math.MaxUint64},
	}
}

// noise gives numbers that look random, and are the same in each run.
type noise uint64

func (z *noise) below(n int) int {
	*z = *z*6364136223846793005 + 1442695040888963407
	return int(uint64(*z>>33) % uint64(n))
}

// shuffled are the items in another sequence.
func (z *noise) shuffled(l []api.Item) []api.Item {
	l = slices.Clone(l)
	for i := range l {
		j := z.below(i + 1)
		l[i], l[j] = l[j], l[i]
	}
	return l
}

func TestExamples(t *testing.T) {
	h := filled(t, api.Item{ID: 1, At: 9}, api.Item{ID: 2, At: 5, N: 1}, api.Item{ID: 3, At: 5})
	if x, is := h.Top(); x != (api.Item{ID: 3, At: 5}) || !is {
		t.Errorf("Top = %v, %v", x, is)
	}
	if e := h.Push(api.Item{ID: 2, At: 1, N: 1}); e != api.ErrHeap {
		t.Errorf("Push of 2 again: %v, want ErrHeap", e)
	}
	if x, is := h.Take(3); x != (api.Item{ID: 3, At: 5}) || !is {
		t.Errorf("Take(3) = %v, %v", x, is)
	}
	if x, is := h.Pop(); x != (api.Item{ID: 2, At: 5, N: 1}) || !is {
		t.Errorf("Pop = %v, %v", x, is)
	}
	if e := h.Move(1, 4, 7); e != api.OK {
		t.Errorf("Move(1, 4, 7): %v", e)
	}
	if x, is := h.Find(1); x != (api.Item{ID: 1, At: 4, N: 7}) || !is {
		t.Errorf("Find(1) = %v, %v", x, is)
	}
	if e := h.Move(9, 0, 0); e != api.ErrHeap {
		t.Errorf("Move(9, 0, 0): %v, want ErrHeap", e)
	}
}

// nothing fails if one of the calls that tell of items tells of one.
func nothing(t *testing.T, h *heap.Heap) {
	t.Helper()
	for name, call := range map[string]func() (api.Item, bool){
		"Pop": h.Pop, "Top": h.Top,
		"Take": func() (api.Item, bool) { return h.Take(0) },
		"Find": func() (api.Item, bool) { return h.Find(0) },
	} {
		if x, is := call(); x != (api.Item{}) || is {
			t.Errorf("%s = %v, %v, want no item", name, x, is)
		}
	}
	for _, now := range []uint64{0, 1, never} {
		if l := h.Due(now); len(l) != 0 {
			t.Errorf("Due(%d) = %v, want nothing", now, l)
		}
	}
	if l := h.All(); len(l) != 0 || h.Len() != 0 {
		t.Errorf("All = %v, Len = %d, want nothing", l, h.Len())
	}
}

func TestEmpty(t *testing.T) {
	nothing(t, heap.New())
	h := filled(t, ordered()...)
	popped(h)
	nothing(t, h)
	if e := h.Move(0, 1, 1); e != api.ErrHeap {
		t.Errorf("Move in an empty heap: %v, want ErrHeap", e)
	}
	x := api.Item{ID: 0, At: never, N: 3}
	if e := h.Push(x); e != api.OK {
		t.Fatalf("Push into an emptied heap: %v", e)
	}
	holds(t, h, x)
}

func TestNotMade(t *testing.T) {
	for name, h := range map[string]*heap.Heap{"nil": nil, "zero": {}} {
		t.Run(name, func(t *testing.T) {
			for range 2 { // a Push that is refused makes no heap of it
				if e := h.Push(api.Item{}); e != api.ErrNil {
					t.Errorf("Push: %v, want ErrNil", e)
				}
				if e := h.Move(0, 0, 0); e != api.ErrNil {
					t.Errorf("Move: %v, want ErrNil", e)
				}
				nothing(t, h)
				if h.Due(never) != nil || h.All() != nil {
					t.Error("Due, or All, is not nil")
				}
			}
		})
	}
}

func TestHeapsAreApart(t *testing.T) {
	x, y := api.Item{ID: 1, At: 1}, api.Item{ID: 1, At: 2}
	g, h := filled(t, x), filled(t, y)
	g.Pop()
	holds(t, g)
	holds(t, h, y)
}

func TestPush(t *testing.T) {
	h := heap.New()
	for i, x := range ordered() {
		if e := h.Push(x); e != api.OK {
			t.Fatalf("Push(%v): %v", x, e)
		}
		holds(t, h, ordered()[:i+1]...)
	}
}

func TestPushRefuses(t *testing.T) {
	h := filled(t, ordered()...)
	for _, x := range ordered() {
		for _, y := range []api.Item{x, {ID: x.ID}, {ID: x.ID, At: 7, N: 7}, {ID: x.ID, At: never, N: math.MaxUint64}} {
			if e := h.Push(y); e != api.ErrHeap {
				t.Fatalf("Push(%v): %v, want ErrHeap", y, e)
			}
			holds(t, h, ordered()...)
		}
	}
}

// TestAnOrder holds that items that are pushed in any sequence are popped in order.
func TestAnOrder(t *testing.T) {
	var z noise
	for range 500 {
		l := z.shuffled(ordered())
		h := filled(t, l...)
		holds(t, h, ordered()...)
		if got := popped(h); !slices.Equal(got, ordered()) {
			t.Fatalf("pushed %v, popped %v", l, got)
		}
	}
}

func TestPop(t *testing.T) {
	h := filled(t, ordered()...)
	for i, want := range ordered() {
		holds(t, h, ordered()[i:]...)
		if x, is := h.Pop(); x != want || !is {
			t.Fatalf("Pop = %v, %v, want %v", x, is, want)
		}
		if x, is := h.Find(want.ID); x != (api.Item{}) || is {
			t.Fatalf("Find(%d) of what is popped = %v, %v", want.ID, x, is)
		}
	}
	holds(t, h)
}

func TestTake(t *testing.T) {
	var z noise
	for i, want := range ordered() {
		h := filled(t, z.shuffled(ordered())...)
		if x, is := h.Take(want.ID); x != want || !is {
			t.Fatalf("Take(%d) = %v, %v, want %v", want.ID, x, is, want)
		}
		rest := slices.Delete(ordered(), i, i+1)
		holds(t, h, rest...)
		if x, is := h.Take(want.ID); x != (api.Item{}) || is {
			t.Fatalf("Take(%d) again = %v, %v, want no item", want.ID, x, is)
		}
		if x, is := h.Find(want.ID); x != (api.Item{}) || is {
			t.Fatalf("Find(%d) = %v, %v, want no item", want.ID, x, is)
		}
		if e := h.Move(want.ID, 0, 0); e != api.ErrHeap {
			t.Fatalf("Move(%d): %v, want ErrHeap", want.ID, e)
		}
		holds(t, h, rest...)
	}
}

// absent are IDs that none of the ordered items has.
func absent() []int {
	return []int{-1, 5, 6, 10, 100, -8, math.MinInt + 2, math.MaxInt - 2, math.MaxInt32, math.MinInt32}
}

func TestAbsent(t *testing.T) {
	h := filled(t, ordered()...)
	for _, id := range absent() {
		if x, is := h.Take(id); x != (api.Item{}) || is {
			t.Errorf("Take(%d) = %v, %v, want no item", id, x, is)
		}
		if x, is := h.Find(id); x != (api.Item{}) || is {
			t.Errorf("Find(%d) = %v, %v, want no item", id, x, is)
		}
		if e := h.Move(id, 1, 1); e != api.ErrHeap {
			t.Errorf("Move(%d): %v, want ErrHeap", id, e)
		}
	}
	holds(t, h, ordered()...)
}

// TestMove moves each item to each other's place, beside it by N alone, and to where it is.
func TestMove(t *testing.T) {
	var z noise
	for i, x := range ordered() {
		for _, y := range ordered() {
			h := filled(t, z.shuffled(ordered())...)
			to := api.Item{ID: x.ID, At: y.At, N: y.N}
			if e := h.Move(to.ID, to.At, to.N); e != api.OK {
				t.Fatalf("Move(%d, %d, %d): %v", to.ID, to.At, to.N, e)
			}
			want := ordered()
			want[i] = to
			holds(t, h, sorted(want)...)
			if l := popped(h); !slices.Equal(l, sorted(want)) {
				t.Fatalf("%v moved to %v: popped %v", x, to, l)
			}
		}
	}
}

func TestMoveBack(t *testing.T) {
	h := filled(t, ordered()...)
	for _, x := range ordered() {
		for _, at := range []uint64{0, x.At, never} {
			if e := h.Move(x.ID, at, 0); e != api.OK {
				t.Fatalf("Move(%d, %d, 0): %v", x.ID, at, e)
			}
			if y, is := h.Find(x.ID); y != (api.Item{ID: x.ID, At: at}) || !is {
				t.Fatalf("Find(%d) = %v, %v, moved to %d", x.ID, y, is, at)
			}
		}
		h.Move(x.ID, x.At, x.N)
		holds(t, h, ordered()...)
	}
}

func TestDue(t *testing.T) {
	var z noise
	for _, now := range []uint64{0, 1, 2, 1<<63 - 1, 1 << 63, never - 2, never - 1, never} {
		h := filled(t, z.shuffled(ordered())...)
		var due, rest []api.Item
		for _, x := range ordered() {
			if x.At <= now {
				due = append(due, x)
			} else {
				rest = append(rest, x)
			}
		}
		if l := h.Due(now); !slices.Equal(l, due) {
			t.Fatalf("Due(%d) = %v, want %v", now, l, due)
		}
		holds(t, h, rest...)
		if l := h.Due(now); len(l) != 0 {
			t.Fatalf("Due(%d) again = %v", now, l)
		}
		for _, x := range due {
			if e := h.Push(x); e != api.OK {
				t.Fatalf("Push(%v) after Due(%d): %v", x, now, e)
			}
		}
		holds(t, h, ordered()...)
	}
}

func TestNothingIsDueYet(t *testing.T) {
	l := []api.Item{{ID: 1, At: 5}, {ID: 2, At: never}}
	h := filled(t, l...)
	if due := h.Due(4); len(due) != 0 {
		t.Errorf("Due(4) = %v", due)
	}
	holds(t, h, l...)
}

// TestRemovedAndPushedAgain holds that it makes no difference, however an item is removed.
func TestRemovedAndPushedAgain(t *testing.T) {
	var z noise
	for _, x := range ordered() {
		h := filled(t, z.shuffled(ordered())...)
		h.Take(x.ID)
		h.Push(x)
		holds(t, h, ordered()...)
		first, _ := h.Pop()
		h.Push(first)
		if l := popped(h); !slices.Equal(l, ordered()) {
			t.Fatalf("%v is removed and pushed again: popped %v", x, l)
		}
	}
}

func TestSlicesAreNew(t *testing.T) {
	h := filled(t, ordered()...)
	first, second := h.All(), h.All()
	clear(first)
	_ = append(first[:1], api.Item{ID: 77})
	if !slices.Equal(second, ordered()) {
		t.Errorf("a second All is %v", second)
	}
	holds(t, h, ordered()...)

	h.Due(0)
	due := h.Due(1)
	want := slices.Clone(due)
	clear(h.All())
	for _, x := range ordered()[:len(ordered())-h.Len()] {
		h.Push(x)
	}
	again := h.Due(0)
	clear(again)
	if !slices.Equal(due, want) || len(want) != 3 {
		t.Errorf("Due(1) = %v, later %v", want, due)
	}
	clear(due)
	_ = append(due[:0], make([]api.Item, 10)...)
	holds(t, h, ordered()[len(again):]...)
}

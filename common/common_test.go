package common_test

import (
	"math"
	"slices"
	"testing"

	"roundhouse/api"
	"roundhouse/common"
)

const never = api.Never

// made is a set in which some timeouts are common.
func made(t *testing.T, afters ...uint64) *common.Set {
	t.Helper()
	s := common.New()
	for _, after := range afters {
		declare(t, s, after)
	}
	return s
}

func declare(t *testing.T, s *common.Set, after uint64) {
	t.Helper()
	if e := s.Common(after); e != api.OK {
		t.Fatalf("Common(%d): %v", after, e)
	}
}

func add(t *testing.T, s *common.Set, id int, now, after uint64) {
	t.Helper()
	if e := s.Add(id, now, after); e != api.OK {
		t.Fatalf("Add(%d, %d, %d): %v", id, now, after, e)
	}
}

// holds fails unless the set has just these items, in this order, by every call that tells of them.
func holds(t *testing.T, s *common.Set, want ...api.Item) {
	t.Helper()
	if l := s.All(); !slices.Equal(l, want) {
		t.Fatalf("All = %v, want %v", l, want)
	}
	if n := s.Len(); n != len(want) {
		t.Fatalf("Len = %d, want %d", n, len(want))
	}
	first := api.Item{}
	if len(want) > 0 {
		first = want[0]
	}
	if x, is := s.Top(); x != first || is != (len(want) > 0) {
		t.Fatalf("Top = %v, %v, want %v", x, is, first)
	}
	for _, x := range want {
		if y, is := s.Find(x.ID); y != x || !is {
			t.Fatalf("Find(%d) = %v, %v, want %v", x.ID, y, is, x)
		}
	}
}

// heaped fails unless Heap is n.
func heaped(t *testing.T, s *common.Set, n int) {
	t.Helper()
	if got := s.Heap(); got != n {
		t.Fatalf("Heap = %d, want %d", got, n)
	}
}

// absent fails unless the set has no item with that ID.
func absent(t *testing.T, s *common.Set, id int) {
	t.Helper()
	if x, is := s.Find(id); x != (api.Item{}) || is {
		t.Fatalf("Find(%d) = %v, %v, want no item", id, x, is)
	}
	if s.Cut(id) {
		t.Fatalf("Cut(%d) = true", id)
	}
}

// some is a set with two queues, of three items and of two, and with two separate items, and what it holds.
func some(t *testing.T) (*common.Set, []api.Item) {
	t.Helper()
	s := made(t, 10, 20)
	add(t, s, 5, 0, 20)
	add(t, s, 3, 1, 10)
	add(t, s, 8, 4, 9)
	add(t, s, 0, 3, 10)
	add(t, s, 7, 3, 10)
	add(t, s, math.MaxInt, 2, 10) // its deadline is before that of 7
	add(t, s, 2, 9, 20)
	want := []api.Item{
		{ID: 3, At: 11, N: 1}, {ID: math.MaxInt, At: 12, N: 5},
		{ID: 8, At: 13, N: 2}, {ID: 0, At: 13, N: 3}, {ID: 7, At: 13, N: 4},
		{ID: 5, At: 20, N: 0}, {ID: 2, At: 29, N: 6},
	}
	holds(t, s, want...)
	heaped(t, s, 4)
	return s, want
}

func TestExamples(t *testing.T) {
	s := made(t, 10)
	add(t, s, 1, 0, 10)
	add(t, s, 2, 3, 10)
	add(t, s, 3, 3, 5)
	heaped(t, s, 2)
	if x, is := s.Top(); x != (api.Item{ID: 3, At: 8, N: 2}) || !is {
		t.Errorf("Top = %v, %v", x, is)
	}
	if l := s.Due(11); !slices.Equal(l, []api.Item{{ID: 3, At: 8, N: 2}, {ID: 1, At: 10}}) {
		t.Errorf("Due(11) = %v", l)
	}
	add(t, s, 2, 20, 10)
	holds(t, s, api.Item{ID: 2, At: 30, N: 3})
	if e := s.Common(10); e != api.ErrCommon {
		t.Errorf("Common(10) again: %v, want ErrCommon", e)
	}
}

// nothing fails if one of the calls that tell of items tells of one.
func nothing(t *testing.T, s *common.Set) {
	t.Helper()
	holds(t, s)
	heaped(t, s, 0)
	for _, now := range []uint64{0, 1, never} {
		if l := s.Due(now); len(l) != 0 {
			t.Errorf("Due(%d) = %v, want nothing", now, l)
		}
	}
	for _, id := range []int{math.MinInt, -1, 0, 1, math.MaxInt} {
		absent(t, s, id)
	}
}

func TestEmpty(t *testing.T) {
	nothing(t, common.New())
	nothing(t, made(t, 0, 10))
	s, _ := some(t)
	s.Due(never)
	nothing(t, s)
	add(t, s, 3, 1, 10)
	holds(t, s, api.Item{ID: 3, At: 11, N: 7})
	heaped(t, s, 1)
}

func TestNotMade(t *testing.T) {
	for name, s := range map[string]*common.Set{"nil": nil, "zero": {}} {
		t.Run(name, func(t *testing.T) {
			for range 2 { // no call makes a set of it
				for _, after := range []uint64{0, 5, never} {
					if e := s.Common(after); e != api.ErrNil {
						t.Errorf("Common(%d): %v, want ErrNil", after, e)
					}
					for _, id := range []int{math.MinInt, -1, 0, 1} {
						if e := s.Add(id, 0, after); e != api.ErrNil {
							t.Errorf("Add(%d, 0, %d): %v, want ErrNil", id, after, e)
						}
					}
				}
				nothing(t, s)
				if s.Due(never) != nil || s.All() != nil {
					t.Error("Due, or All, is not nil")
				}
			}
		})
	}
}

func TestSetsAreApart(t *testing.T) {
	r, s := made(t, 10), common.New()
	add(t, r, 1, 0, 10)
	add(t, r, 2, 0, 10)
	add(t, s, 1, 5, 10)
	add(t, s, 2, 5, 10)
	heaped(t, r, 1)
	heaped(t, s, 2)
	r.Due(never)
	nothing(t, r)
	holds(t, s, api.Item{ID: 1, At: 15}, api.Item{ID: 2, At: 15, N: 1})
	declare(t, s, 10)
}

func TestCommon(t *testing.T) {
	s := common.New()
	var afters []uint64
	for i := range uint64(common.MaxQueues / 2) {
		afters = append(afters, i, never-1-i)
	}
	for i, after := range afters {
		declare(t, s, after)
		for _, again := range afters[:i+1] {
			if e := s.Common(again); e != api.ErrCommon {
				t.Fatalf("Common(%d) again: %v, want ErrCommon", again, e)
			}
		}
		if e := s.Common(never); e != api.ErrCommon {
			t.Fatalf("Common(Never): %v, want ErrCommon", e)
		}
	}
	for _, after := range []uint64{100, 1 << 63, never, 0} {
		if e := s.Common(after); e != api.ErrCommon {
			t.Errorf("Common(%d) behind %d of them: %v, want ErrCommon", after, common.MaxQueues, e)
		}
	}
	for i, after := range afters { // each has its queue, 100 has none
		add(t, s, i, 0, after)
		add(t, s, 100+i, 0, after)
	}
	heaped(t, s, common.MaxQueues)
	add(t, s, 200, 0, 100)
	add(t, s, 201, 0, 100)
	heaped(t, s, common.MaxQueues+2)
}

// TestMaxQueues: 32 timeouts may be common, whatever items there are.
func TestMaxQueues(t *testing.T) {
	s := common.New()
	for i := range 32 {
		add(t, s, i, 0, uint64(i))
		declare(t, s, uint64(i))
	}
	if e := s.Common(32); e != api.ErrCommon || common.MaxQueues != 32 {
		t.Errorf("Common of a 33rd timeout: %v, want ErrCommon", e)
	}
	s.Due(never)
	if e := s.Common(32); e != api.ErrCommon {
		t.Errorf("Common of a 33rd timeout in an empty set: %v, want ErrCommon", e)
	}
}

// TestNeverIsNotCommon: items that were never to come are separate.
func TestNeverIsNotCommon(t *testing.T) {
	s := common.New()
	if e := s.Common(never); e != api.ErrCommon {
		t.Errorf("Common(Never): %v, want ErrCommon", e)
	}
	add(t, s, 1, 0, never)
	add(t, s, 2, 5, never)
	heaped(t, s, 2)
	holds(t, s, api.Item{ID: 1, At: never}, api.Item{ID: 2, At: never, N: 1})
}

// TestCommonFromNowOn: items that are there when their timeout becomes common stay separate, until they are added again.
func TestCommonFromNowOn(t *testing.T) {
	s := common.New()
	add(t, s, 1, 0, 10)
	add(t, s, 2, 1, 10)
	declare(t, s, 10)
	heaped(t, s, 2)
	add(t, s, 3, 0, 10) // its deadline is before that of 2, which is in no queue
	add(t, s, 4, 2, 10)
	heaped(t, s, 3)
	add(t, s, 1, 2, 10)
	heaped(t, s, 2)
	add(t, s, 2, 2, 10)
	heaped(t, s, 1)
	holds(t, s, api.Item{ID: 3, At: 10, N: 2}, api.Item{ID: 4, At: 12, N: 3}, api.Item{ID: 1, At: 12, N: 4}, api.Item{ID: 2, At: 12, N: 5})
}

func TestAddRefuses(t *testing.T) {
	s, want := some(t)
	for _, id := range []int{-1, -2, -3, math.MinInt} {
		for _, after := range []uint64{0, 10, 20, never} {
			if e := s.Add(id, 1, after); e != api.ErrArg {
				t.Errorf("Add(%d, 1, %d): %v, want ErrArg", id, after, e)
			}
		}
		absent(t, s, id)
	}
	holds(t, s, want...)
	heaped(t, s, 4)
	add(t, s, 1, 50, 1) // an Add that is refused takes no N
	holds(t, s, append(want, api.Item{ID: 1, At: 51, N: 7})...)
}

// TestDeadline: deadlines are those of layer 2, in queues and beside them.
func TestDeadline(t *testing.T) {
	for _, x := range []struct{ now, after, at uint64 }{
		{0, 0, 0}, {7, 0, 7}, {0, 7, 7}, {5, 10, 15}, {1 << 63, 1<<63 - 2, never - 1}, {1 << 63, 1<<63 - 1, never},
		{1 << 63, 1 << 63, never}, {never - 2, 10, never}, {never - 1, 0, never - 1}, {never, 0, never}, {never, 1, never}, {1, never - 1, never},
	} {
		for _, s := range []*common.Set{made(t), made(t, x.after)} {
			add(t, s, 0, x.now, x.after)
			holds(t, s, api.Item{At: x.at})
		}
	}
	s := made(t)
	for _, now := range []uint64{0, 5, never} {
		add(t, s, 0, now, never)
		if x, _ := s.Find(0); x.At != never {
			t.Errorf("Add at %d, after Never: %v", now, x)
		}
	}
}

// TestAddAgain adds each item again, with each timeout, now earlier, as before, and later: it has a new deadline and the next N.
func TestAddAgain(t *testing.T) {
	_, all := some(t)
	for i, x := range all {
		for _, after := range []uint64{0, 5, 10, 20, never} {
			for _, now := range []uint64{0, 2, 3, 9, 50} {
				s, want := some(t)
				y := api.Item{ID: x.ID, At: now + after, N: 7}
				if after == never {
					y.At = never
				}
				add(t, s, y.ID, now, after)
				want = slices.Delete(want, i, i+1)
				at := 0
				for at < len(want) && want[at].At <= y.At {
					at++
				}
				holds(t, s, slices.Insert(want, at, y)...)
			}
		}
	}
}

// TestQueueTakes: an item joins the queue unless its deadline is before that of the last one there, whichever is the last one now.
func TestQueueTakes(t *testing.T) {
	s := made(t, 10)
	add(t, s, 1, 5, 10)
	add(t, s, 2, 5, 10) // at the same tick
	add(t, s, 3, 6, 10)
	heaped(t, s, 1)
	add(t, s, 4, 5, 10) // behind 1, but ahead of 3
	heaped(t, s, 2)
	s.Cut(3)
	add(t, s, 5, 5, 10) // 2 is the last one now
	heaped(t, s, 2)
	add(t, s, 6, 4, 10)
	heaped(t, s, 3)
	holds(t, s, api.Item{ID: 6, At: 14, N: 5}, api.Item{ID: 1, At: 15, N: 0}, api.Item{ID: 2, At: 15, N: 1}, api.Item{ID: 4, At: 15, N: 3}, api.Item{ID: 5, At: 15, N: 4})
	for _, id := range []int{1, 2, 5} {
		heaped(t, s, 3)
		s.Cut(id)
	}
	heaped(t, s, 2)
	add(t, s, 7, 0, 10) // any deadline may follow in an empty queue
	heaped(t, s, 3)
	add(t, s, 8, 0, 10)
	heaped(t, s, 3)
}

// TestLastAddedAgain: an item that is added again doesn't keep itself out of its queue.
func TestLastAddedAgain(t *testing.T) {
	s := made(t, 10)
	add(t, s, 1, 5, 10)
	add(t, s, 1, 2, 10)
	add(t, s, 2, 2, 10)
	heaped(t, s, 1)
	add(t, s, 2, 90, 10)
	add(t, s, 2, 3, 10)
	add(t, s, 3, 3, 10)
	heaped(t, s, 1)
	holds(t, s, api.Item{ID: 1, At: 12, N: 1}, api.Item{ID: 2, At: 13, N: 4}, api.Item{ID: 3, At: 13, N: 5})
}

// TestQueuesByTimeout: the queue of an item hangs on its timeout, not on its deadline.
func TestQueuesByTimeout(t *testing.T) {
	s := made(t, 0, 10, 20)
	add(t, s, 1, 20, 0)
	add(t, s, 2, 10, 10)
	add(t, s, 3, 0, 20)
	heaped(t, s, 3)
	add(t, s, 4, 5, 15)
	heaped(t, s, 4)
	for i := range 3 {
		add(t, s, 10+i, 30, uint64(10*i))
	}
	heaped(t, s, 4)
	var ids []int
	for _, x := range s.Due(never) {
		ids = append(ids, x.ID)
	}
	if !slices.Equal(ids, []int{1, 2, 3, 4, 10, 11, 12}) {
		t.Errorf("Due(Never) = %v", ids)
	}
}

func TestAbsent(t *testing.T) {
	s, want := some(t)
	for _, id := range []int{math.MinInt, -8, -1, 1, 4, 6, 9, 10, 20, math.MaxInt - 1} {
		absent(t, s, id)
	}
	holds(t, s, want...)
	heaped(t, s, 4)
}

// TestCut cuts each item out, and then all others, one behind the other.
func TestCut(t *testing.T) {
	_, all := some(t)
	for i, x := range all {
		s, want := some(t)
		if !s.Cut(x.ID) {
			t.Fatalf("Cut(%d) = false", x.ID)
		}
		absent(t, s, x.ID)
		want = slices.Delete(want, i, i+1)
		holds(t, s, want...)
		for len(want) > 0 {
			j := i % len(want)
			if !s.Cut(want[j].ID) {
				t.Fatalf("Cut(%d) = false", want[j].ID)
			}
			want = slices.Delete(want, j, j+1)
			holds(t, s, want...)
		}
		nothing(t, s)
	}
}

// TestHeap: a queue counts once while it has an item, each separate item by itself.
func TestHeap(t *testing.T) {
	s, _ := some(t)
	for _, x := range []struct{ id, heap int }{
		{0, 4}, {3, 4}, {7, 3}, // the queue of 10
		{math.MaxInt, 2}, // separate
		{2, 2},           // that of 20, from its end
		{8, 1}, {5, 0},   // separate; the last one of 20
		{5, 0}, {-1, 0}, {1, 0}, // none
	} {
		s.Cut(x.id)
		heaped(t, s, x.heap)
	}
}

func TestDue(t *testing.T) {
	for _, now := range []uint64{0, 10, 11, 12, 13, 14, 19, 20, 28, 29, 30, 1 << 63, never - 1, never} {
		s, all := some(t)
		add(t, s, 11, 0, never)
		add(t, s, 12, never-1, 10)
		add(t, s, 13, never-11, 10)
		all = append(all, api.Item{ID: 13, At: never - 1, N: 9}, api.Item{ID: 11, At: never, N: 7}, api.Item{ID: 12, At: never, N: 8})
		holds(t, s, all...)
		var due, rest []api.Item
		for _, x := range all {
			if x.At <= now {
				due = append(due, x)
			} else {
				rest = append(rest, x)
			}
		}
		if l := s.Due(now); !slices.Equal(l, due) {
			t.Fatalf("Due(%d) = %v, want %v", now, l, due)
		}
		holds(t, s, rest...)
		for _, x := range due {
			absent(t, s, x.ID)
		}
		if l := s.Due(now); len(l) != 0 {
			t.Fatalf("Due(%d) again = %v", now, l)
		}
	}
}

func TestSlicesAreNew(t *testing.T) {
	s, want := some(t)
	first, second := s.All(), s.All()
	clear(first)
	_ = append(first[:1], api.Item{ID: 77})
	if !slices.Equal(second, want) {
		t.Errorf("a second All is %v", second)
	}
	holds(t, s, want...)
	due := s.Due(12)
	for range 2 {
		add(t, s, 3, 9, 10)
		add(t, s, 0, 9, 10)
		clear(s.Due(29))
	}
	if !slices.Equal(due, want[:2]) || !slices.Equal(second, want) {
		t.Errorf("later, Due(12) is %v, All is %v", due, second)
	}
	add(t, s, 3, 9, 10)
	clear(due)
	_ = append(due[:0], make([]api.Item, 10)...)
	holds(t, s, api.Item{ID: 3, At: 19, N: 11})
}

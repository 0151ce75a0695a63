package prio_test

import (
	"math"
	"slices"
	"testing"

	"roundhouse/api"
	"roundhouse/prio"
)

// most is what a count is limited to.
const most = 1<<31 - 1

// made is so many queues without items.
func made(t *testing.T, many int) *prio.Queues {
	t.Helper()
	q, e := prio.New(many)
	if e != api.OK || q == nil {
		t.Fatalf("New(%d) = %v, %v", many, q, e)
	}
	return q
}

func put(t *testing.T, q *prio.Queues, at, id, flags, count int) {
	t.Helper()
	if e := q.Put(at, id, flags, count); e != api.OK {
		t.Fatalf("Put(%d, %d, %d, %d): %v", at, id, flags, count, e)
	}
}

// holds fails unless the queues have just these items, by every call that tells of them.
func holds(t *testing.T, q *prio.Queues, want ...[]prio.Item) {
	t.Helper()
	many, least := 0, -1
	for at, line := range want {
		if l := q.List(at); !slices.Equal(l, line) {
			t.Fatalf("List(%d) = %v, want %v", at, l, line)
		}
		for _, x := range line {
			if y, p, is := q.Has(x.ID); y != x || p != at || !is {
				t.Fatalf("Has(%d) = %v, %d, %v, want %v, %d", x.ID, y, p, is, x, at)
			}
		}
		many += len(line)
		if least < 0 && len(line) > 0 {
			least = at
		}
	}
	if q.Len() != many || q.Least() != least || q.Many() != len(want) {
		t.Fatalf("Len = %d, Least = %d, Many = %d, want %d, %d, %d", q.Len(), q.Least(), q.Many(), many, least, len(want))
	}
}

// absent fails unless no queue has that ID.
func absent(t *testing.T, q *prio.Queues, id int) {
	t.Helper()
	if x, p, is := q.Has(id); x != (prio.Item{}) || p != 0 || is {
		t.Fatalf("Has(%d) = %v, %d, %v, want nothing", id, x, p, is)
	}
}

// some are queues of four priorities, of which two have items, and what they hold.
func some(t *testing.T) (*prio.Queues, [][]prio.Item) {
	t.Helper()
	want := [][]prio.Item{nil, {{ID: 4, Flags: 1}, {ID: 0, Flags: 2, Count: 3}, {ID: 9}}, nil, {{ID: 7, Count: 1}, {ID: math.MaxInt, Flags: math.MaxInt, Count: most}}}
	q := made(t, 4)
	for at, line := range want {
		for _, x := range line {
			put(t, q, at, x.ID, x.Flags, x.Count)
		}
	}
	holds(t, q, want...)
	return q, want
}

// outside are numbers that are no priority of four.
func outside() []int {
	return []int{math.MinInt, -2, -1, 4, 5, api.MaxPrio, api.MaxPrio + 1, 100, 1 << 32, math.MaxInt}
}

func TestExamples(t *testing.T) {
	q := made(t, 3)
	put(t, q, 2, 7, api.Read, 0)
	put(t, q, 0, 5, api.Timeout, 0)
	put(t, q, 1, 7, api.Write, 0)
	seven := prio.Item{ID: 7, Flags: api.Read | api.Write}
	if x, p, is := q.Has(7); x != seven || p != 2 || !is {
		t.Errorf("Has(7) = %v, %d, %v", x, p, is)
	}
	for _, want := range []struct {
		least int
		batch []prio.Item
	}{{0, []prio.Item{{ID: 5, Flags: api.Timeout}}}, {2, []prio.Item{seven}}, {-1, nil}, {-1, nil}} {
		if n := q.Least(); n != want.least {
			t.Errorf("Least = %d, want %d", n, want.least)
		}
		if l := q.Batch(); !slices.Equal(l, want.batch) {
			t.Errorf("Batch = %v, want %v", l, want.batch)
		}
	}
}

func TestNew(t *testing.T) {
	for many := 1; many <= api.MaxPrio+1; many++ {
		q := made(t, many)
		holds(t, q, make([][]prio.Item, many)...)
		if l := q.Batch(); len(l) != 0 {
			t.Errorf("Batch of empty queues = %v", l)
		}
		for at := range many {
			put(t, q, at, at, 1, 1)
		}
		if e := q.Put(many, many, 1, 1); e != api.ErrArg {
			t.Errorf("Put into queue %d of %d: %v, want ErrArg", many, many, e)
		}
		if q.Len() != many || q.Many() != many {
			t.Errorf("Len = %d, Many = %d, want %d", q.Len(), q.Many(), many)
		}
	}
}

func TestNewRefuses(t *testing.T) {
	for _, many := range []int{math.MinInt, -8, -1, 0, api.MaxPrio + 2, 64, 1 << 32, math.MaxInt} {
		if q, e := prio.New(many); q != nil || e != api.ErrArg {
			t.Errorf("New(%d) = %v, %v, want nil, ErrArg", many, q, e)
		}
	}
}

func TestNotMade(t *testing.T) {
	for name, q := range map[string]*prio.Queues{"nil": nil, "zero": {}} {
		t.Run(name, func(t *testing.T) {
			for range 2 { // no call makes queues of it
				for _, n := range []int{-1, 0, 1, 8} {
					if e := q.Put(n, n, n, n); e != api.ErrNil {
						t.Errorf("Put of %d: %v, want ErrNil", n, e)
					}
					if e := q.Move(n, n); e != api.ErrNil {
						t.Errorf("Move(%d, %d): %v, want ErrNil", n, n, e)
					}
					if q.Cut(n) {
						t.Errorf("Cut(%d) = true", n)
					}
					if l := q.List(n); l != nil {
						t.Errorf("List(%d) = %v", n, l)
					}
					absent(t, q, n)
				}
				if l := q.Batch(); l != nil {
					t.Errorf("Batch = %v", l)
				}
				holds(t, q)
			}
		})
	}
}

func TestQueuesAreApart(t *testing.T) {
	q, r := made(t, 2), made(t, 3)
	put(t, q, 1, 5, 1, 1)
	put(t, r, 2, 5, 2, 2)
	q.Batch()
	holds(t, q, nil, nil)
	holds(t, r, nil, nil, []prio.Item{{ID: 5, Flags: 2, Count: 2}})
}

func TestPutAppends(t *testing.T) {
	q := made(t, 2)
	var first, second []prio.Item
	for i, id := range []int{3, 0, 8, 1, math.MaxInt, 2, 5} {
		x := prio.Item{ID: id, Flags: 1 << i, Count: i}
		if i%3 == 0 {
			first = append(first, x)
		} else {
			second = append(second, x)
		}
		put(t, q, min(i%3, 1), x.ID, x.Flags, x.Count)
		holds(t, q, first, second)
	}
}

// TestPutAgain puts each item that is there again, at each priority: it gets flags and a count, and stays.
func TestPutAgain(t *testing.T) {
	for at := range 4 {
		q, want := some(t)
		for _, more := range []struct{ flags, count int }{{0, 0}, {api.Signal, 5}, {api.Read | api.Signal, 1}, {0, 2}, {api.Edge, 0}} {
			for _, line := range want {
				for i := range line {
					x := &line[i]
					put(t, q, at, x.ID, more.flags, more.count)
					x.Flags |= more.flags
					x.Count = min(x.Count+more.count, most)
				}
			}
			holds(t, q, want...)
		}
	}
}

func TestPutRefuses(t *testing.T) {
	q, want := some(t)
	for _, id := range []int{4, 7, 9, 20} { // those that are there, too
		for _, at := range outside() {
			if e := q.Put(at, id, 1, 1); e != api.ErrArg {
				t.Errorf("Put(%d, %d, 1, 1): %v, want ErrArg", at, id, e)
			}
		}
		for _, n := range []int{-1, -2, math.MinInt} {
			for _, x := range [][3]int{{n, 1, 1}, {id, n, 1}, {id, 1, n}, {id, n, n}, {n, n, n}} {
				if e := q.Put(1, x[0], x[1], x[2]); e != api.ErrArg {
					t.Errorf("Put(1, %d, %d, %d): %v, want ErrArg", x[0], x[1], x[2], e)
				}
			}
			absent(t, q, n)
		}
		holds(t, q, want...)
	}
}

func TestCountIsLimited(t *testing.T) {
	for _, x := range []struct{ first, more, want int }{
		{0, most, most}, {most - 1, 0, most - 1}, {most - 1, 1, most}, {most - 1, 2, most}, {most, 0, most}, {most, 1, most}, {most, most, most},
		{1, most - 2, most - 1}, {1, most - 1, most}, {1, most, most}, {1, math.MaxInt, most}, {math.MaxInt, 0, most}, {math.MaxInt, math.MaxInt, most},
	} {
		q := made(t, 1)
		put(t, q, 0, 3, 1, x.first)
		holds(t, q, []prio.Item{{ID: 3, Flags: 1, Count: min(x.first, most)}})
		put(t, q, 0, 3, 2, x.more)
		holds(t, q, []prio.Item{{ID: 3, Flags: 3, Count: x.want}})
	}
}

func TestHasNot(t *testing.T) {
	q, want := some(t)
	for _, id := range []int{math.MinInt, -4, -1, 1, 2, 3, 5, 8, 10, math.MaxInt - 1} {
		absent(t, q, id)
		if q.Cut(id) {
			t.Errorf("Cut(%d) = true", id)
		}
	}
	holds(t, q, want...)
}

// TestCut cuts each item of queues out, once and again, and puts it back behind the others.
func TestCut(t *testing.T) {
	_, all := some(t)
	for at, line := range all {
		for i, x := range line {
			q, want := some(t)
			if !q.Cut(x.ID) {
				t.Fatalf("Cut(%d) = false", x.ID)
			}
			want[at] = slices.Delete(want[at], i, i+1)
			holds(t, q, want...)
			absent(t, q, x.ID)
			if q.Cut(x.ID) {
				t.Fatalf("Cut(%d) again = true", x.ID)
			}
			holds(t, q, want...)
			put(t, q, at, x.ID, 5, 6)
			want[at] = append(want[at], prio.Item{ID: x.ID, Flags: 5, Count: 6})
			holds(t, q, want...)
		}
	}
}

// TestMove moves each item to each priority, its own too.
func TestMove(t *testing.T) {
	_, all := some(t)
	for at, line := range all {
		for i, x := range line {
			for to := range all {
				q, want := some(t)
				if e := q.Move(x.ID, to); e != api.OK {
					t.Fatalf("Move(%d, %d): %v", x.ID, to, e)
				}
				if to != at {
					want[at] = slices.Delete(want[at], i, i+1)
					want[to] = append(want[to], x)
				}
				holds(t, q, want...)
				if to != at && q.Move(x.ID, at) == api.OK { // back, to the end
					want[to] = want[to][:len(want[to])-1]
					want[at] = append(want[at], x)
				}
				holds(t, q, want...)
			}
		}
	}
}

func TestMoveRefuses(t *testing.T) {
	q, want := some(t)
	for _, id := range []int{math.MinInt, -1, 1, 2, 3, 100} {
		for at := range 4 {
			if e := q.Move(id, at); e != api.ErrArg {
				t.Errorf("Move(%d, %d): %v, want ErrArg", id, at, e)
			}
		}
		absent(t, q, id)
	}
	for _, at := range outside() {
		for _, id := range []int{4, 7, 1} {
			if e := q.Move(id, at); e != api.ErrArg {
				t.Errorf("Move(%d, %d): %v, want ErrArg", id, at, e)
			}
		}
	}
	holds(t, q, want...)
}

// TestBatch takes out batch by batch: all IDs come once, by priority, and in the order in which they came.
func TestBatch(t *testing.T) {
	q, want := some(t)
	for at := range want {
		batch := want[at]
		if len(batch) == 0 {
			continue
		}
		if l := q.Batch(); !slices.Equal(l, batch) {
			t.Fatalf("Batch = %v, want %v", l, batch)
		}
		for _, x := range batch {
			absent(t, q, x.ID)
			if q.Cut(x.ID) || q.Move(x.ID, 0) != api.ErrArg {
				t.Fatalf("%d is cut, or moved, behind its batch", x.ID)
			}
		}
		want[at] = nil
		holds(t, q, want...)
	}
	if l := q.Batch(); len(l) != 0 {
		t.Fatalf("Batch of empty queues = %v", l)
	}
	put(t, q, 3, 4, 8, 2)
	holds(t, q, nil, nil, nil, []prio.Item{{ID: 4, Flags: 8, Count: 2}})
}

// TestBatchOfWhatCame: what is put, or moved, ahead of a batch comes with the next one.
func TestBatchOfWhatCame(t *testing.T) {
	q, _ := some(t)
	put(t, q, 2, 11, 0, 0)
	q.Batch()
	put(t, q, 0, 12, 0, 0)
	q.Move(7, 0)
	put(t, q, 2, 4, 0, 0)
	for _, want := range [][]int{{12, 7}, {11, 4}, {math.MaxInt}, nil} {
		var ids []int
		for _, x := range q.Batch() {
			ids = append(ids, x.ID)
		}
		if !slices.Equal(ids, want) {
			t.Errorf("Batch = %v, want %v", ids, want)
		}
	}
}

func TestListOutside(t *testing.T) {
	q, _ := some(t)
	for _, at := range outside() {
		if l := q.List(at); len(l) != 0 {
			t.Errorf("List(%d) = %v", at, l)
		}
	}
}

func TestSlicesAreNew(t *testing.T) {
	q, want := some(t)
	first, second := q.List(1), q.List(1)
	clear(first)
	_ = append(first[:1], prio.Item{ID: 77})
	if !slices.Equal(second, want[1]) {
		t.Errorf("a second List is %v", second)
	}
	holds(t, q, want...)
	batch := q.Batch()
	put(t, q, 1, 4, 0, 9)
	put(t, q, 1, 0, 0, 9)
	if !slices.Equal(batch, want[1]) || !slices.Equal(second, want[1]) {
		t.Errorf("later, a Batch is %v, a List is %v", batch, second)
	}
	clear(batch)
	_ = append(batch[:0], make([]prio.Item, 10)...)
	want[1] = []prio.Item{{ID: 4, Count: 9}, {ID: 0, Count: 9}}
	holds(t, q, want...)
}

package prio_test

import (
	"slices"
	"testing"

	"roundhouse/api"
	"roundhouse/prio"
)

// plain are queues told as plainly as can be, lists: what the tests hold Queues against.
type plain [][]prio.Item

// at is where an ID is: its priority, and its place there.
func (p plain) at(id int) (int, int, bool) {
	for at, line := range p {
		for i, x := range line {
			if x.ID == id {
				return at, i, true
			}
		}
	}
	return 0, 0, false
}

func (p plain) has(at int) bool { return at >= 0 && at < len(p) }

func (p plain) put(at, id, flags, count int) api.Errno {
	if !p.has(at) || id < 0 || flags < 0 || count < 0 {
		return api.ErrArg
	}
	own, i, is := p.at(id)
	if !is {
		own, i = at, len(p[at])
		p[at] = append(p[at], prio.Item{ID: id})
	}
	p[own][i].Flags |= flags
	p[own][i].Count = min(p[own][i].Count+count, most)
	return api.OK
}

func (p plain) cut(id int) bool {
	at, i, is := p.at(id)
	if is {
		p[at] = slices.Delete(p[at], i, i+1)
	}
	return is
}

func (p plain) move(id, to int) api.Errno {
	at, i, is := p.at(id)
	if !is || !p.has(to) {
		return api.ErrArg
	}
	if x := p[at][i]; at != to {
		p.cut(id)
		p[to] = append(p[to], x)
	}
	return api.OK
}

func (p plain) batch() []prio.Item {
	for at, line := range p {
		if len(line) > 0 {
			p[at] = nil
			return line
		}
	}
	return nil
}

// noise gives numbers that look random, and are the same in each run.
type noise uint64

func (z *noise) below(n int) int {
	*z = *z*6364136223846793005 + 1442695040888963407
	return int(uint64(*z>>33) % uint64(n))
}

// TestLongWalk does thousands of calls to queues and to plain ones: both answer the same, and hold the same behind each call.
func TestLongWalk(t *testing.T) {
	var z noise
	for many := 1; many <= api.MaxPrio+1; many++ {
		for _, ids := range []int{2, 5, 12, 40} {
			q, p := made(t, many), make(plain, many)
			for range 1500 {
				walkOn(t, &z, q, p, ids)
				holds(t, q, p...)
			}
			for q.Len() > 0 {
				if l, want := q.Batch(), p.batch(); !slices.Equal(l, want) {
					t.Fatalf("Batch = %v, want %v", l, want)
				}
			}
			holds(t, q, make(plain, many)...)
		}
	}
}

// walkOn does one call to both, and fails unless they answer the same.
func walkOn(t *testing.T, z *noise, q *prio.Queues, p plain, ids int) {
	t.Helper()
	at, id := z.below(len(p)+2)-1, z.below(ids+1)-1
	switch n := z.below(40); {
	case n < 20:
		flags, count := 1<<z.below(6), z.below(5)-1
		if e, want := q.Put(at, id, flags, count), p.put(at, id, flags, count); e != want {
			t.Fatalf("Put(%d, %d, %d, %d) = %v, want %v", at, id, flags, count, e, want)
		}
	case n < 28:
		if is, want := q.Cut(id), p.cut(id); is != want {
			t.Fatalf("Cut(%d) = %v, want %v", id, is, want)
		}
	case n < 38:
		if e, want := q.Move(id, at), p.move(id, at); e != want {
			t.Fatalf("Move(%d, %d) = %v, want %v", id, at, e, want)
		}
	default:
		if l, want := q.Batch(), p.batch(); !slices.Equal(l, want) {
			t.Fatalf("Batch = %v, want %v", l, want)
		}
	}
}

// TestMany has so many items that calls which walk along a queue would not end.
func TestMany(t *testing.T) {
	const many = 1 << 18
	q := made(t, 8)
	for id := range many {
		put(t, q, 5, id, 1, 1)
	}
	for id := range many {
		if e := q.Move(id, 6-id%2); e != api.OK {
			t.Fatalf("Move(%d): %v", id, e)
		}
		put(t, q, 0, id, 2, 1)
		if n := q.Least(); n != 5 {
			t.Fatalf("Least = %d", n)
		}
	}
	for id := many - 1; id >= 0; id -= 3 {
		if !q.Cut(id) {
			t.Fatalf("Cut(%d) = false", id)
		}
	}
	for odd := 1; odd >= 0; odd-- {
		var want []prio.Item
		for id := odd; id < many; id += 2 {
			if (many-1-id)%3 != 0 {
				want = append(want, prio.Item{ID: id, Flags: 3, Count: 2})
			}
		}
		if l := q.Batch(); !slices.Equal(l, want) {
			t.Fatalf("Batch has %d items, want %d, or another order", len(l), len(want))
		}
	}
	if q.Len() != 0 || q.Least() != -1 {
		t.Errorf("Len = %d, Least = %d", q.Len(), q.Least())
	}
}

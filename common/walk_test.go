package common_test

import (
	"math/bits"
	"slices"
	"testing"

	"roundhouse/api"
	"roundhouse/common"
)

// plain is a set told as plainly as can be, lists: what the tests hold a Set against.
type plain struct {
	separate []api.Item
	afters   []uint64
	queues   [][]api.Item
	adds     uint64
}

func (p *plain) common(after uint64) api.Errno {
	if after == never || slices.Contains(p.afters, after) || len(p.afters) == common.MaxQueues {
		return api.ErrCommon
	}
	p.afters = append(p.afters, after)
	p.queues = append(p.queues, nil)
	return api.OK
}

func (p *plain) add(id int, now, after uint64) api.Errno {
	if id < 0 {
		return api.ErrArg
	}
	p.cut(id)
	at, over := bits.Add64(now, after, 0)
	if over > 0 {
		at = never
	}
	line := &p.separate
	if i := slices.Index(p.afters, after); i >= 0 {
		if q := p.queues[i]; len(q) == 0 || q[len(q)-1].At <= at {
			line = &p.queues[i]
		}
	}
	*line = append(*line, api.Item{ID: id, At: at, N: p.adds})
	p.adds++
	return api.OK
}

func (p *plain) cut(id int) bool {
	was := len(p.all())
	has := func(x api.Item) bool { return x.ID == id }
	p.separate = slices.DeleteFunc(p.separate, has)
	for i := range p.queues {
		p.queues[i] = slices.DeleteFunc(p.queues[i], has)
	}
	return len(p.all()) < was
}

func (p *plain) all() []api.Item {
	l := append(slices.Clone(p.separate), slices.Concat(p.queues...)...)
	slices.SortFunc(l, func(x, y api.Item) int {
		if x.At < y.At || x.At == y.At && x.N < y.N {
			return -1
		}
		return 1
	})
	return l
}

func (p *plain) due(now uint64) []api.Item {
	var l []api.Item
	for _, x := range p.all() {
		if x.At <= now {
			p.cut(x.ID)
			l = append(l, x)
		}
	}
	return l
}

func (p *plain) heap() int {
	n := len(p.separate)
	for _, q := range p.queues {
		n += min(len(q), 1)
	}
	return n
}

// noise gives numbers that look random, and are the same in each run.
type noise uint64

func (z *noise) below(n int) int {
	*z = *z*6364136223846793005 + 1442695040888963407
	return int(uint64(*z>>33) % uint64(n))
}

// tick is one of few numbers from the base on, or near the greatest ones.
func (z *noise) tick(base uint64, few int) uint64 {
	n := uint64(z.below(few))
	if z.below(30) > 0 {
		return base + n
	}
	return never - n
}

// TestLongWalk does thousands of calls to a set and to a plain one: both answer the same, and hold the same behind each call.
func TestLongWalk(t *testing.T) {
	var z noise
	for walk := range 24 {
		s, p := common.New(), &plain{}
		for step := range 800 {
			walkOn(t, &z, s, p, uint64(step/20), 1+walk*2)
			holds(t, s, p.all()...)
			heaped(t, s, p.heap())
		}
	}
}

// walkOn does one call to both, and fails unless they answer the same.
func walkOn(t *testing.T, z *noise, s *common.Set, p *plain, clock uint64, ids int) {
	t.Helper()
	id, now, after := z.below(ids+1)-1, z.tick(clock, 6), z.tick(0, 12)
	switch n := z.below(100); {
	case n < 3:
		if e, want := s.Common(after), p.common(after); e != want {
			t.Fatalf("Common(%d) = %v, want %v", after, e, want)
		}
	case n < 75:
		if e, want := s.Add(id, now, after), p.add(id, now, after); e != want {
			t.Fatalf("Add(%d, %d, %d) = %v, want %v", id, now, after, e, want)
		}
	case n < 90:
		if is, want := s.Cut(id), p.cut(id); is != want {
			t.Fatalf("Cut(%d) = %v, want %v", id, is, want)
		}
	default:
		if l, want := s.Due(now), p.due(now); !slices.Equal(l, want) {
			t.Fatalf("Due(%d) = %v, want %v", now, l, want)
		}
	}
}

// TestCommonDoesNotMatter does the same calls to sets in which other timeouts are common: all answer the same, but for Heap.
func TestCommonDoesNotMatter(t *testing.T) {
	var z noise
	for range 20 {
		sets := []*common.Set{made(t), made(t, 0), made(t, 3, 7), made(t, 0, 1, 2, 3, 4, 5, 6, 7, 8, 9, 10, 11), common.New()}
		for step := range 500 {
			id, now, after, which := z.below(20), z.tick(uint64(step/10), 4), z.tick(0, 12), z.below(20)
			sets[4].Common(after) // more and more of them
			var due []api.Item
			var is bool
			for i, s := range sets {
				switch {
				case which == 0:
					l := s.Due(now)
					if i > 0 && !slices.Equal(l, due) {
						t.Fatalf("set %d: Due(%d) = %v, want %v", i, now, l, due)
					}
					due = l
				case which < 4:
					was := s.Cut(id)
					if i > 0 && was != is {
						t.Fatalf("set %d: Cut(%d) = %v, want %v", i, id, was, is)
					}
					is = was
				default:
					add(t, s, id, now, after)
				}
			}
			for _, s := range sets[1:] {
				holds(t, s, sets[0].All()...)
			}
		}
	}
}

// TestNowGoesOn: while now never decreases, each item whose timeout was common when it was added is in a queue.
func TestNowGoesOn(t *testing.T) {
	var z noise
	for _, clock := range []uint64{0, never - 60} {
		s := made(t, 0, 2, 30, never-1)
		others := map[int]int{} // 1 for each ID that is separate
		for range 2000 {
			if z.below(20) == 0 && clock < never {
				clock++
			}
			id, after := z.below(30), []uint64{0, 1, 2, 3, 30, never - 1, never}[z.below(7)]
			switch z.below(8) {
			case 0:
				s.Cut(id)
				others[id] = 0
			case 1:
				for _, x := range s.Due(clock) {
					others[x.ID] = 0
				}
			default:
				add(t, s, id, clock, after)
				others[id] = 0
				if after == 1 || after == 3 || after == never {
					others[id] = 1
				}
			}
			n := 0
			for _, one := range others {
				n += one
			}
			if h := s.Heap(); h < n || h > n+4 {
				t.Fatalf("Heap = %d, with 4 queues and %d other items", h, n)
			}
		}
	}
}

// TestMany has so many items that calls which walk along a queue would not end.
func TestMany(t *testing.T) {
	const many = 1 << 18
	s := made(t, 5, 50)
	for id := range many {
		add(t, s, id, uint64(id), 5)
	}
	heaped(t, s, 1)
	for id := 0; id < many; id += 2 { // to the other queue
		add(t, s, id, many, 50)
		if x, is := s.Top(); x.ID != 1 || !is {
			t.Fatalf("Top = %v, %v, want that of ID 1", x, is)
		}
	}
	heaped(t, s, 2)
	for id := many - 1; id >= 0; id -= 4 {
		if !s.Cut(id) {
			t.Fatalf("Cut(%d) = false", id)
		}
	}
	for now := range uint64(many) {
		l := s.Due(now + 5)
		if len(l) > 1 || (len(l) == 1) != (now%4 == 1) || len(l) == 1 && l[0].ID != int(now) {
			t.Fatalf("Due(%d) = %v", now+5, l)
		}
	}
	heaped(t, s, 1)
	if l := s.All(); len(l) != many/2 || s.Len() != many/2 {
		t.Fatalf("%d, %d items stay", len(l), s.Len())
	}
	for i, x := range s.Due(many + 50) {
		if x.ID != 2*i || x.At != many+50 {
			t.Fatalf("item %d is %v", i, x)
		}
	}
	nothing(t, s)
}

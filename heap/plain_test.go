package heap_test

import (
	"cmp"
	"slices"
	"testing"

	"roundhouse/api"
	"roundhouse/heap"
)

// sorted are the items in order.
func sorted(l []api.Item) []api.Item {
	l = slices.Clone(l)
	slices.SortFunc(l, func(x, y api.Item) int {
		if x.At != y.At {
			return cmp.Compare(x.At, y.At)
		}
		if x.N != y.N {
			return cmp.Compare(x.N, y.N)
		}
		return cmp.Compare(x.ID, y.ID)
	})
	return l
}

// plain is a heap told as plainly as can be, a sorted list: what the tests hold a Heap against.
type plain struct{ l []api.Item }

func (p *plain) at(id int) int {
	return slices.IndexFunc(p.l, func(x api.Item) bool { return x.ID == id })
}

func (p *plain) push(x api.Item) api.Errno {
	if p.at(x.ID) >= 0 {
		return api.ErrHeap
	}
	p.l = sorted(append(p.l, x))
	return api.OK
}

func (p *plain) move(id int, at, n uint64) api.Errno {
	i := p.at(id)
	if i < 0 {
		return api.ErrHeap
	}
	p.l[i].At, p.l[i].N = at, n
	p.l = sorted(p.l)
	return api.OK
}

func (p *plain) find(i int) (api.Item, bool) {
	if i < 0 || i >= len(p.l) {
		return api.Item{}, false
	}
	return p.l[i], true
}

func (p *plain) take(i int) (api.Item, bool) {
	x, is := p.find(i)
	if is {
		p.l = slices.Delete(p.l, i, i+1)
	}
	return x, is
}

func (p *plain) due(now uint64) []api.Item {
	var l []api.Item
	for len(p.l) > 0 && p.l[0].At <= now {
		x, _ := p.take(0)
		l = append(l, x)
	}
	return l
}

// deadline is one of few numbers, so that many items have the same.
func (z *noise) deadline() uint64 {
	n := uint64(z.below(12))
	if n > 9 {
		n += never - 11
	}
	return n
}

// TestLongWalk does thousands of calls to a heap and to a plain one: both answer the same.
func TestLongWalk(t *testing.T) {
	var z noise
	for walk := range 20 {
		h, p := heap.New(), &plain{}
		for step := range 2000 {
			same := walkOn(&z, h, p, 1+walk*20)
			if !same || h.Len() != len(p.l) || step%50 == 0 && !slices.Equal(h.All(), p.l) {
				t.Fatalf("walk %d, step %d: the heap has %v, want %v, or answered otherwise", walk, step, h.All(), p.l)
			}
		}
		if l := popped(h); !slices.Equal(l, p.l) {
			t.Fatalf("walk %d: popped %v, want %v", walk, l, p.l)
		}
	}
}

// walkOn does one call to both, and says whether they answer the same.
func walkOn(z *noise, h *heap.Heap, p *plain, ids int) bool {
	id, at, n := z.below(ids)-ids/2, z.deadline(), uint64(z.below(3))
	var x, y api.Item
	var is, also bool
	switch z.below(10) {
	case 0, 1, 2, 3:
		push := api.Item{ID: id, At: at, N: n}
		return h.Push(push) == p.push(push)
	case 4, 5:
		return h.Move(id, at, n) == p.move(id, at, n)
	case 6:
		x, is = h.Take(id)
		y, also = p.take(p.at(id))
	case 7:
		x, is = h.Find(id)
		y, also = p.find(p.at(id))
	case 8:
		x, is = h.Pop()
		y, also = p.take(0)
	default:
		if z.below(20) > 0 {
			x, is = h.Top()
			y, also = p.find(0)
			break
		}
		return slices.Equal(h.Due(at), p.due(at))
	}
	return x == y && is == also
}

// TestMany has so many items that calls which walk through all of them would not end.
func TestMany(t *testing.T) {
	const many = 1 << 18
	h := heap.New()
	for id := range many {
		h.Push(api.Item{ID: id, At: uint64(id * 40503 % many)})
	}
	for id := range many {
		h.Move(id, uint64(many-id), 0)
	}
	for id := 0; id < many; id += 2 {
		h.Take(id)
	}
	last := api.Item{}
	for range many / 4 {
		x, is := h.Pop()
		if !is || x.At <= last.At || x.ID != many-int(x.At) {
			t.Fatalf("Pop = %v, %v behind %v", x, is, last)
		}
		last = x
	}
	if l := h.Due(never); len(l) != many/4 || l[0].At <= last.At || h.Len() != 0 {
		t.Fatalf("%d are due, %d stay", len(l), h.Len())
	}
}

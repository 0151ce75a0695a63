package fdset_test

import (
	"math"
	"slices"
	"testing"

	"roundhouse/api"
	"roundhouse/fdset"
)

// plain is a set told as plainly as can be: what the tests hold a Set against.
type plain [api.SetSize]bool

func plainOf(l ...int) plain {
	var p plain
	for _, fd := range l {
		p[fd] = true
	}
	return p
}

func (p plain) list() []int {
	var l []int
	for fd, in := range p {
		if in {
			l = append(l, fd)
		}
	}
	return l
}

func (p plain) where(keep func(fd int) bool) plain {
	for fd := range p {
		p[fd] = p[fd] && keep(fd)
	}
	return p
}

func (p plain) set(t *testing.T) fdset.Set {
	t.Helper()
	s, e := fdset.Of(p.list())
	if e != api.OK {
		t.Fatalf("Of(%v): %v", p.list(), e)
	}
	return s
}

// samples are sets about the edges of the words, and some scattered ones.
func samples() []plain {
	var full, even plain
	for fd := range full {
		full[fd], even[fd] = true, fd%2 == 0
	}
	l := []plain{
		plainOf(), plainOf(0), plainOf(1), plainOf(31), plainOf(32), plainOf(63), plainOf(31, 32), plainOf(62, 63),
		plainOf(0, 63), plainOf(0, 31, 32, 63), plainOf(3, 1, 2, 9), plainOf(30, 31, 32, 33), plainOf(31, 33), full, even,
	}
	state := uint64(1)
	for range 60 {
		var p plain
		for fd := range p {
			state = state*6364136223846793005 + 1442695040888963407
			dense := len(l)%2 == 0
			p[fd] = (state>>62 != 0) == dense
		}
		l = append(l, p)
	}
	return l
}

// outside are numbers that no set has.
func outside() []int {
	return []int{-1, -31, -32, -64, math.MinInt, math.MinInt + 1, 64, 65, 95, 96, math.MaxInt, math.MaxInt32 + 1}
}

// starts are numbers to go from and to cut at: all of a set, its edges, and those far outside.
func starts() []int {
	l := outside()
	for n := range api.SetSize + 1 {
		l = append(l, n)
	}
	return l
}

func TestWords(t *testing.T) {
	for fd, want := range map[int]fdset.Set{0: {1, 0}, 31: {1 << 31, 0}, 32: {0, 1}, 63: {0, 1 << 31}, 33: {0, 2}} {
		if s, e := fdset.Of([]int{fd}); s != want || e != api.OK {
			t.Errorf("Of(%d) = %v, %v, want %v", fd, s, e, want)
		}
	}
}

func TestOf(t *testing.T) {
	for _, l := range [][]int{nil, {}} {
		if s, e := fdset.Of(l); s != (fdset.Set{}) || e != api.OK {
			t.Errorf("Of(%v) = %v, %v", l, s, e)
		}
	}
	s, e := fdset.Of([]int{3, 1, 2, 9, 3})
	if e != api.OK || !slices.Equal(s.All(), []int{1, 2, 3, 9}) {
		t.Errorf("All = %v, %v", s.All(), e)
	}
	for _, fd := range outside() {
		for _, l := range [][]int{{fd}, {fd, 0}, {0, 31, fd}, {0, fd, 63}} {
			if s, e := fdset.Of(l); s != (fdset.Set{}) || e != api.ErrSet {
				t.Errorf("Of(%v) = %v, %v, want ErrSet and no set", l, s, e)
			}
		}
	}
}

func TestWith(t *testing.T) {
	for _, p := range samples() {
		s := p.set(t)
		for fd := range api.SetSize {
			want := p
			want[fd] = true
			if u, e := s.With(fd); e != api.OK || !slices.Equal(u.All(), want.list()) {
				t.Fatalf("%v with %d = %v, %v", p.list(), fd, u.All(), e)
			}
		}
		for _, fd := range outside() {
			if u, e := s.With(fd); u != (fdset.Set{}) || e != api.ErrSet {
				t.Fatalf("%v with %d = %v, %v, want ErrSet and no set", p.list(), fd, u, e)
			}
		}
	}
}

func TestWithout(t *testing.T) {
	for _, p := range samples() {
		s := p.set(t)
		for _, fd := range starts() {
			want := p.where(func(n int) bool { return n != fd })
			if u := s.Without(fd); !slices.Equal(u.All(), want.list()) {
				t.Fatalf("%v without %d = %v", p.list(), fd, u.All())
			}
		}
	}
}

func TestHas(t *testing.T) {
	for _, p := range samples() {
		s := p.set(t)
		for fd := range p {
			if s.Has(fd) != p[fd] {
				t.Fatalf("%v has %d: %v", p.list(), fd, s.Has(fd))
			}
		}
		for _, fd := range outside() {
			if s.Has(fd) {
				t.Fatalf("%v has %d", p.list(), fd)
			}
		}
	}
}

func TestLenTopAll(t *testing.T) {
	for _, p := range samples() {
		s, l := p.set(t), p.list()
		top := -1
		if len(l) > 0 {
			top = l[len(l)-1]
		}
		if s.Len() != len(l) || s.Top() != top || !slices.Equal(s.All(), l) {
			t.Errorf("%v: Len %d, Top %d, All %v", l, s.Len(), s.Top(), s.All())
		}
	}
}

func TestNext(t *testing.T) {
	for _, p := range samples() {
		s, l := p.set(t), p.list()
		for _, from := range starts() {
			i, _ := slices.BinarySearch(l, from)
			want, is := 0, i < len(l)
			if is {
				want = l[i]
			}
			if got, ok := s.Next(from); got != want || ok != is {
				t.Fatalf("%v: Next(%d) = %d, %v, want %d, %v", l, from, got, ok, want, is)
			}
		}
	}
}

func TestBelow(t *testing.T) {
	for _, p := range samples() {
		s := p.set(t)
		for _, n := range starts() {
			want := p.where(func(fd int) bool { return fd < n })
			if u := s.Below(n); !slices.Equal(u.All(), want.list()) {
				t.Fatalf("%v below %d = %v", p.list(), n, u.All())
			}
		}
	}
}

func TestAndOrLess(t *testing.T) {
	for _, p := range samples() {
		for _, q := range samples() {
			s, u := p.set(t), q.set(t)
			var both, either, less plain
			for fd := range p {
				both[fd], either[fd], less[fd] = p[fd] && q[fd], p[fd] || q[fd], p[fd] && !q[fd]
			}
			if s.And(u) != both.set(t) || s.Or(u) != either.set(t) || s.Less(u) != less.set(t) {
				t.Fatalf("%v and %v: And %v, Or %v, Less %v", p.list(), q.list(), s.And(u).All(), s.Or(u).All(), s.Less(u).All())
			}
		}
	}
}

func TestPartsAreDisjoint(t *testing.T) {
	for _, p := range samples() {
		for _, q := range samples() {
			s, u := p.set(t), q.set(t)
			parts := []fdset.Set{s.And(u), s.Less(u), u.Less(s)}
			var none, all fdset.Set
			for i, part := range parts {
				for _, other := range parts[:i] {
					if part.And(other) != none {
						t.Fatalf("%v and %v: parts %v and %v meet", p.list(), q.list(), part.All(), other.All())
					}
				}
				all = all.Or(part)
			}
			if all != s.Or(u) {
				t.Fatalf("%v and %v: the parts make %v", p.list(), q.list(), all.All())
			}
		}
	}
}

func TestNextToNextIsAll(t *testing.T) {
	for _, p := range samples() {
		s := p.set(t)
		var l []int
		for fd, is := s.Next(0); is; fd, is = s.Next(fd + 1) {
			l = append(l, fd)
		}
		if !slices.Equal(l, s.All()) || !slices.Equal(l, p.list()) {
			t.Errorf("%v: Next to Next gives %v, All %v", p.list(), l, s.All())
		}
	}
}

func TestArgumentsAreOnlyRead(t *testing.T) {
	l := []int{9, 3, 3, 63}
	s, _ := fdset.Of(l)
	if !slices.Equal(l, []int{9, 3, 3, 63}) {
		t.Errorf("Of left %v", l)
	}
	l[0] = 0
	u, _ := fdset.Of([]int{3, 31})
	before, other := s, u
	s.With(1)
	s.Without(3)
	s.Below(4)
	s.And(u)
	s.Or(u)
	s.Less(u)
	if s != before || u != other || !slices.Equal(s.All(), []int{3, 9, 63}) {
		t.Errorf("left %v and %v", s.All(), u.All())
	}
}

func TestAllIsNew(t *testing.T) {
	s, _ := fdset.Of([]int{3, 9, 63})
	first, second := s.All(), s.All()
	clear(first)
	_ = append(first[:1], 7, 7)
	if want := []int{3, 9, 63}; !slices.Equal(second, want) || !slices.Equal(s.All(), want) {
		t.Errorf("All = %v, then %v", second, s.All())
	}
}

package chain_test

import (
	"bytes"
	"slices"
	"testing"

	"roundhouse/api"
	"roundhouse/chain"
)

// plain is a chain told as plainly as can be, its bytes: what the tests hold a Chain against.
type plain []byte

func (p plain) copied(from, n int) []byte {
	if from < 0 || from > len(p) || n < 0 {
		return nil
	}
	return slices.Clone(p[from:min(from+n, len(p))])
}

func (p *plain) take(n int) []byte {
	b := p.copied(0, n)
	*p = (*p)[len(b):]
	return b
}

func (p plain) find(what []byte, from int) (int, bool) {
	if from < 0 || from > len(p) {
		return 0, false
	}
	n := bytes.Index(p[from:], what)
	if n < 0 {
		return 0, false
	}
	return from + n, true
}

func (p *plain) line() ([]byte, bool) {
	n, is := p.find([]byte("\n"), 0)
	if !is {
		return nil, false
	}
	return p.take(n + 1)[:n], true
}

// noise gives numbers that look random, and are the same in each run.
type noise uint64

func (z *noise) below(n int) int {
	*z = *z*6364136223846793005 + 1442695040888963407
	return int(uint64(*z>>33) % uint64(n))
}

// bytes are of few kinds, so that there is something to be found.
func (z *noise) bytes(n int) []byte {
	b := make([]byte, n)
	for i := range b {
		b[i] = "aabac\n"[z.below(6)]
	}
	return b
}

// TestLongWalk does thousands of calls to three chains and to plain ones: both answer the same, and hold the same behind each call.
func TestLongWalk(t *testing.T) {
	for _, wide := range []int{2, 5, 20, 300, 900} {
		z := noise(wide)
		chains, plains := [3]*chain.Chain{added(t), added(t), added(t)}, new([3]plain)
		for range 4000 {
			i, k := z.below(3), z.below(3)
			if z.below(12) == 0 && i != k {
				n := z.below(wide * 3)
				b := plains[i].take(n)
				plains[k] = append(slices.Clone(plains[k]), b...)
				if m, e := chains[i].Move(chains[k], n); m != len(b) || e != api.OK {
					t.Fatalf("Move(%d) = %d, %v, want %d", n, m, e, len(b))
				}
			} else {
				walkOn(t, &z, chains[i], &plains[i], wide)
			}
			holds(t, chains[i], string(plains[i]))
			holds(t, chains[k], string(plains[k]))
		}
	}
}

// walkOn does one call to both, and fails unless they answer the same.
func walkOn(t *testing.T, z *noise, c *chain.Chain, p *plain, wide int) {
	t.Helper()
	n, from := z.below(wide*2)-1, z.below(len(*p)+3)-1
	switch z.below(9) {
	case 0, 1:
		b := z.bytes(z.below(wide))
		good(t, c.Add(b))
		*p = append(slices.Clone(*p), b...)
	case 2:
		b := z.bytes(z.below(wide))
		good(t, c.Ahead(b))
		*p = append(b, *p...)
	case 3:
		if m, want := c.Drain(n), len(p.take(n)); m != want {
			t.Fatalf("Drain(%d) = %d, want %d", n, m, want)
		}
	case 4:
		if b, want := c.Take(n), p.take(n); !bytes.Equal(b, want) {
			t.Fatalf("Take(%d) = %q, want %q", n, b, want)
		}
	case 5:
		if b, want := c.Copy(from, n), p.copied(from, n); !bytes.Equal(b, want) {
			t.Fatalf("Copy(%d, %d) = %q, want %q", from, n, b, want)
		}
	case 6:
		b, e := c.Pull(from)
		if from < 0 || from > len(*p) {
			if b != nil || e != api.ErrArg {
				t.Fatalf("Pull(%d) of %d = %q, %v", from, len(*p), b, e)
			}
		} else if !bytes.Equal(b, (*p)[:from]) || e != api.OK || from > 0 && c.Chunks()[0] < from {
			t.Fatalf("Pull(%d) = %q, %v, Chunks = %v", from, b, e, c.Chunks())
		}
	case 7:
		what := z.bytes(z.below(9))
		m, is := c.Find(what, from)
		if want, has := p.find(what, from); m != want || is != has {
			t.Fatalf("Find(%q, %d) = %d, %v, want %d, %v", what, from, m, is, want, has)
		}
	case 8:
		b, is := c.Line()
		if want, has := p.line(); !bytes.Equal(b, want) || is != has {
			t.Fatalf("Line = %q, %v, want %q, %v", b, is, want, has)
		}
	}
}

// TestMany fills chains byte by byte, at both ends, and empties them so: calls which walk along the chunks would not end.
func TestMany(t *testing.T) {
	all := many(api.MaxChain)
	var c, d, to chain.Chain
	for i, x := range all {
		good(t, c.Add([]byte{x}))
		good(t, d.Ahead([]byte{all[len(all)-1-i]}))
	}
	for _, from := range []*chain.Chain{&c, &d} {
		holds(t, from, string(all))
		for range all {
			if n, e := from.Move(&to, 1); n != 1 || e != api.OK {
				t.Fatal(n, e)
			}
		}
		holds(t, from, "")
		holds(t, &to, string(all))
		for i, x := range all {
			if b := to.Take(1); len(b) != 1 || b[0] != x {
				t.Fatalf("byte %d is %v, want %d", i, b, x)
			}
		}
		holds(t, &to, "")
	}
}

// TestFindLong seeks what fits nearly everywhere, nearly as a whole: a search that looks at bytes again and again would not end.
func TestFindLong(t *testing.T) {
	const half = api.MaxChain/2 - 2
	for _, c := range several(t, string(bytes.Repeat([]byte("a"), 2*half))) {
		what := bytes.Repeat([]byte("a"), half)
		if n, is := c.Find(what, 3); n != 3 || !is {
			t.Errorf("Find = %d, %v", n, is)
		}
		for _, at := range []int{0, 1, half / 2, half - 1} {
			what[at] = 'b'
			if n, is := c.Find(what, 0); n != 0 || is {
				t.Errorf("Find = %d, %v", n, is)
			}
			what[at] = 'a'
		}
		c.Drain(1)
		good(t, c.Add([]byte("b")))
		what[half-1] = 'b'
		if n, is := c.Find(what, 0); n != half || !is {
			t.Errorf("Find = %d, %v, want %d", n, is, half)
		}
	}
}

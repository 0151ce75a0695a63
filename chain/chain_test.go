package chain_test

import (
	"bytes"
	"math"
	"slices"
	"testing"

	"roundhouse/api"
	"roundhouse/chain"
)

// added is a chain to which these parts were appended.
func added(t *testing.T, parts ...string) *chain.Chain {
	t.Helper()
	c := new(chain.Chain)
	for _, part := range parts {
		good(t, c.Add([]byte(part)))
	}
	return c
}

func good(t *testing.T, e api.Errno) {
	t.Helper()
	if e != api.OK {
		t.Fatal(e)
	}
}

// holds fails unless the chain has just these bytes, in chunks of which none is empty.
func holds(t *testing.T, c *chain.Chain, want string) {
	t.Helper()
	if b := c.Copy(0, math.MaxInt); string(b) != want {
		t.Fatalf("the chain has %.99q, want %.99q", b, want)
	}
	if c.Len() != len(want) {
		t.Fatalf("Len = %d, want %d", c.Len(), len(want))
	}
	total := 0
	for _, n := range c.Chunks() {
		if n < 1 {
			t.Fatalf("Chunks = %v", c.Chunks())
		}
		total += n
	}
	if total != len(want) {
		t.Fatalf("the chunks have %d bytes, want %d: %v", total, len(want), c.Chunks())
	}
}

// many is n bytes that repeat themselves late.
func many(n int) []byte {
	b := make([]byte, n)
	for i := range b {
		b[i] = byte(i*40503>>7 + i>>13)
	}
	return b
}

// several are chains of the same bytes, which came in other ways; they have more than one chunk, but for the first.
func several(t *testing.T, want string) []*chain.Chain {
	t.Helper()
	whole, single, ahead, moved, pulled := added(t, want), added(t), added(t), added(t), added(t, "..."+want)
	for i := range want {
		good(t, single.Add([]byte(want[i:i+1])))
		last := len(want) - 1 - i
		good(t, ahead.Ahead([]byte(want[last:last+1])))
	}
	for from := added(t, want); from.Len() > 0; {
		if n, e := from.Move(moved, 2); n < 1 || e != api.OK {
			t.Fatal(n, e)
		}
	}
	if _, e := pulled.Pull(min(5, pulled.Len())); e != api.OK || pulled.Drain(3) != 3 {
		t.Fatal("Pull, or Drain")
	}
	all := []*chain.Chain{whole, single, ahead, moved, pulled}
	for _, c := range all {
		holds(t, c, want)
	}
	return all
}

func TestExamples(t *testing.T) {
	c, to := added(t, "ab", "cd"), added(t)
	good(t, c.Ahead([]byte("x")))
	holds(t, c, "xabcd")
	if b := c.Copy(1, 3); string(b) != "abc" {
		t.Errorf("Copy(1, 3) = %q", b)
	}
	for _, x := range []struct {
		what  string
		from  int
		index int
		is    bool
	}{{"bc", 0, 2, true}, {"x", 1, 0, false}, {"", 5, 5, true}, {"", 6, 0, false}} {
		if n, is := c.Find([]byte(x.what), x.from); n != x.index || is != x.is {
			t.Errorf("Find(%q, %d) = %d, %v", x.what, x.from, n, is)
		}
	}
	if b, e := c.Pull(4); string(b) != "xabc" || e != api.OK || c.Chunks()[0] < 4 {
		t.Errorf("Pull(4) = %q, %v, Chunks = %v", b, e, c.Chunks())
	}
	holds(t, c, "xabcd")
	good(t, c.Add([]byte("l\nm")))
	if b, is := c.Line(); string(b) != "xabcdl" || !is {
		t.Errorf("Line = %q, %v", b, is)
	}
	if n, e := c.Move(to, 1); n != 1 || e != api.OK {
		t.Errorf("Move = %d, %v", n, e)
	}
	holds(t, to, "m")
	holds(t, c, "")
}

func TestNil(t *testing.T) {
	var c *chain.Chain
	to := added(t, "abc")
	for _, n := range []int{math.MinInt, -1, 0, 1, math.MaxInt} {
		for _, b := range [][]byte{nil, {10}, make([]byte, api.MaxChain+1)} {
			if add, ahead := c.Add(b), c.Ahead(b); add != api.ErrNil || ahead != api.ErrNil {
				t.Errorf("Add = %v, Ahead = %v", add, ahead)
			}
			if at, is := c.Find(b, n); at != 0 || is {
				t.Errorf("Find(.., %d) = %d, %v", n, at, is)
			}
		}
		if b, e := c.Pull(n); b != nil || e != api.ErrNil {
			t.Errorf("Pull(%d) = %q, %v", n, b, e)
		}
		if k, copied, taken := c.Drain(n), c.Copy(n, n), c.Take(n); k != 0 || copied != nil || taken != nil {
			t.Errorf("Drain, Copy, Take of %d = %d, %q, %q", n, k, copied, taken)
		}
		for _, x := range [][2]*chain.Chain{{c, to}, {to, c}, {c, c}} {
			if k, e := x[0].Move(x[1], n); k != 0 || e != api.ErrNil {
				t.Errorf("Move(%d) = %d, %v", n, k, e)
			}
		}
	}
	if b, is := c.Line(); b != nil || is {
		t.Errorf("Line = %q, %v", b, is)
	}
	if c.Len() != 0 || c.Chunks() != nil {
		t.Errorf("Len = %d, Chunks = %v", c.Len(), c.Chunks())
	}
	holds(t, to, "abc")
}

func TestZero(t *testing.T) {
	var c, to chain.Chain
	for range 2 { // no call gives it anything
		holds(t, &c, "")
		for _, n := range []int{0, 1, math.MaxInt} {
			k, e := c.Move(&to, n)
			if k != 0 || e != api.OK || c.Drain(n) != 0 || len(c.Take(n)) != 0 || len(c.Copy(0, n)) != 0 {
				t.Errorf("bytes of nothing, or Move(%d) = %d, %v", n, k, e)
			}
		}
		if b, e := c.Pull(0); len(b) != 0 || e != api.OK {
			t.Errorf("Pull(0) = %q, %v", b, e)
		}
		if b, e := c.Pull(1); b != nil || e != api.ErrArg {
			t.Errorf("Pull(1) = %q, %v", b, e)
		}
		if n, is := c.Find(nil, 0); n != 0 || !is {
			t.Errorf("Find of nothing = %d, %v", n, is)
		}
		if b, is := c.Line(); b != nil || is {
			t.Errorf("Line = %q, %v", b, is)
		}
		good(t, c.Add(nil))
		good(t, c.Ahead([]byte{}))
	}
	holds(t, &to, "")
}

func TestAddAndAhead(t *testing.T) {
	var c chain.Chain
	want := ""
	for i, n := range []int{1, 0, 2, 255, 256, 0, 257, 1, 511, 512, 513, 1000, 3} {
		b := string(many(n))
		if i%3 == 2 {
			good(t, c.Ahead([]byte(b)))
			want = b + want
		} else {
			good(t, c.Add([]byte(b)))
			want += b
		}
		holds(t, &c, want)
	}
	if n := slices.Max(c.Chunks()); n > api.Chunk {
		t.Errorf("a chunk has %d bytes", n)
	}
}

func TestChainIsLimited(t *testing.T) {
	full := many(api.MaxChain)
	for n, call := range []func(*chain.Chain, []byte) api.Errno{(*chain.Chain).Add, (*chain.Chain).Ahead} {
		var c chain.Chain
		if e := call(&c, make([]byte, api.MaxChain+1)); e != api.ErrChain {
			t.Errorf("call %d of too much: %v", n, e)
		}
		holds(t, &c, "")
		good(t, call(&c, full))
		for _, more := range []int{1, 2, 300, api.MaxChain, api.MaxChain + 1} {
			if e := call(&c, make([]byte, more)); e != api.ErrChain {
				t.Errorf("call %d of %d more: %v", n, more, e)
			}
		}
		good(t, call(&c, nil))
		holds(t, &c, string(full))
		c.Drain(7)
		if e := call(&c, make([]byte, 8)); e != api.ErrChain {
			t.Errorf("call %d of one too many: %v", n, e)
		}
		holds(t, &c, string(full[7:]))
		good(t, call(&c, make([]byte, 7)))
		if c.Len() != api.MaxChain {
			t.Errorf("Len = %d", c.Len())
		}
	}
}

// TestRemoves drains, takes and copies each number of bytes, and some that there cannot be.
func TestRemoves(t *testing.T) {
	const want = "abcdefghi"
	for _, n := range []int{math.MinInt, -2, -1, 0, 1, 2, 3, 4, 5, 6, 7, 8, 9, 10, 300, 1 << 32, math.MaxInt} {
		k := max(0, min(n, len(want)))
		for _, c := range several(t, want) {
			if m := c.Drain(n); m != k {
				t.Errorf("Drain(%d) = %d, want %d", n, m, k)
			}
			holds(t, c, want[k:])
			good(t, c.Add([]byte("X")))
			holds(t, c, want[k:]+"X")
		}
		for _, c := range several(t, want) {
			if b := c.Take(n); string(b) != want[:k] {
				t.Errorf("Take(%d) = %q, want %q", n, b, want[:k])
			}
			holds(t, c, want[k:])
			good(t, c.Ahead([]byte("X")))
			holds(t, c, "X"+want[k:])
		}
		for _, c := range several(t, want) {
			for _, from := range []int{math.MinInt, -1, 0, 1, 4, 8, 9, 10, 1 << 40, math.MaxInt} {
				part := ""
				if from >= 0 && from < len(want) {
					part = want[from : from+min(k, len(want)-from)]
				}
				if b := c.Copy(from, n); string(b) != part {
					t.Errorf("Copy(%d, %d) = %q, want %q", from, n, b, part)
				}
			}
			holds(t, c, want)
		}
	}
}

func TestPull(t *testing.T) {
	for _, want := range []string{"a", "abcdefg", string(many(700))} {
		for n := range len(want) + 1 {
			for _, c := range several(t, want) {
				b, e := c.Pull(n)
				if string(b) != want[:n] || e != api.OK || n > 0 && c.Chunks()[0] < n {
					t.Fatalf("Pull(%d) = %.99q, %v, Chunks = %v", n, b, e, c.Chunks())
				}
				holds(t, c, want)
				if n%50 > 5 {
					continue
				}
				clear(b)
				good(t, c.Add([]byte("yz")))
				good(t, c.Ahead([]byte("x")))
				holds(t, c, "x"+want+"yz")
			}
		}
		for _, c := range several(t, want) {
			for _, n := range []int{math.MinInt, -1, len(want) + 1, api.MaxChain, math.MaxInt} {
				if b, e := c.Pull(n); b != nil || e != api.ErrArg {
					t.Errorf("Pull(%d) = %.99q, %v", n, b, e)
				}
			}
			holds(t, c, want)
		}
	}
}

// TestFind seeks each short text, all parts of the bytes, and some that are greater, from each index on.
func TestFind(t *testing.T) {
	for _, all := range []string{"", "a", "ab", "aabaaabaabab", "abababbaababaabbabab", "mississippi\nis"} {
		whats := []string{"", "a", "b", "ab", "ba", "aab", "abab", "abaabab", "ss", "issip", "\n", "z", all + "a", "a" + all, "\x00"}
		for i := range all {
			for j := i; j <= len(all); j++ {
				whats = append(whats, all[i:j])
			}
		}
		for _, c := range several(t, all) {
			for _, what := range whats {
				for from := range len(all) + 3 {
					finds(t, c, all, what, from)
				}
			}
			holds(t, c, all)
		}
	}
}

// finds fails unless Find answers what a search in all of the chain's bytes does.
func finds(t *testing.T, c *chain.Chain, all, what string, from int) {
	t.Helper()
	want := -1
	if from <= len(all) {
		want = bytes.Index([]byte(all[from:]), []byte(what))
	}
	n, is := c.Find([]byte(what), from)
	if want >= 0 && (n != from+want || !is) || want < 0 && (n != 0 || is) {
		t.Fatalf("Find(%.99q, %d) in %.99q = %d, %v", what, from, all, n, is)
	}
}

func TestFindOutside(t *testing.T) {
	for _, c := range several(t, "aaaa") {
		for _, from := range []int{math.MinInt, -1, 5, 1 << 40, math.MaxInt} {
			for _, what := range []string{"", "a", "aaaa", "aaaaa"} {
				if n, is := c.Find([]byte(what), from); n != 0 || is {
					t.Errorf("Find(%q, %d) = %d, %v", what, from, n, is)
				}
			}
		}
		if n, is := c.Find(make([]byte, 4*api.MaxChain), 0); n != 0 || is {
			t.Errorf("Find of more than a chain has = %d, %v", n, is)
		}
	}
}

func TestFindAcrossChunks(t *testing.T) {
	all := many(5000)
	for _, c := range several(t, string(all)) {
		for _, n := range []int{1, 2, 3, 250, 256, 600} {
			for from := 0; from+n <= len(all); from += 97 {
				finds(t, c, string(all), string(all[from:from+n]), 0)
				finds(t, c, string(all), string(all[from:from+n]), from)
				finds(t, c, string(all), string(all[from:from+n]), from+1)
			}
		}
	}
}

func TestLine(t *testing.T) {
	all := "\n\nab\nc\r\n" + string(bytes.Repeat([]byte("long"), 200)) + "\n \nrest"
	for _, c := range several(t, all) {
		left := all
		for bytes.IndexByte([]byte(left), '\n') >= 0 {
			n := bytes.IndexByte([]byte(left), '\n')
			if b, is := c.Line(); string(b) != left[:n] || !is {
				t.Fatalf("Line = %q, %v, want %q", b, is, left[:n])
			}
			left = left[n+1:]
			holds(t, c, left)
		}
		for range 2 {
			if b, is := c.Line(); b != nil || is {
				t.Fatalf("Line without a line feed = %q, %v", b, is)
			}
			holds(t, c, "rest")
		}
		good(t, c.Add([]byte("!\n")))
		if b, is := c.Line(); string(b) != "rest!" || !is {
			t.Errorf("Line = %q, %v", b, is)
		}
		holds(t, c, "")
	}
}

func TestMove(t *testing.T) {
	const want = "abcdefghi"
	for _, n := range []int{0, 1, 2, 3, 4, 5, 6, 7, 8, 9, 10, 1 << 40, math.MaxInt} {
		k := min(n, len(want))
		for _, behind := range []string{"", "uvw"} {
			for i, c := range several(t, want) {
				to := several(t, behind)[i]
				if m, e := c.Move(to, n); m != k || e != api.OK {
					t.Errorf("Move(%d) = %d, %v, want %d", n, m, e, k)
				}
				holds(t, c, want[k:])
				holds(t, to, behind+want[:k])
				// What comes to either of them is not seen in the other.
				good(t, to.Add([]byte("TT")))
				good(t, c.Add([]byte("CC")))
				good(t, c.Ahead([]byte("cc")))
				good(t, to.Ahead([]byte("tt")))
				holds(t, c, "cc"+want[k:]+"CC")
				holds(t, to, "tt"+behind+want[:k]+"TT")
			}
		}
	}
}

func TestMoveRefuses(t *testing.T) {
	full := string(many(api.MaxChain))
	c, to := added(t, "abc", "def"), added(t, full)
	to.Drain(3)
	for _, n := range []int{math.MinInt, -1, 0, 1, 99} {
		if m, e := c.Move(c, n); m != 0 || e != api.ErrArg {
			t.Errorf("Move(itself, %d) = %d, %v", n, m, e)
		}
		if m, e := to.Move(to, n); m != 0 || e != api.ErrArg {
			t.Errorf("Move(itself, %d) = %d, %v", n, m, e)
		}
	}
	for _, n := range []int{-1, -99, math.MinInt} {
		if m, e := c.Move(to, n); m != 0 || e != api.ErrArg {
			t.Errorf("Move(%d) = %d, %v", n, m, e)
		}
	}
	for _, n := range []int{4, 5, 6, 7, 1 << 40, math.MaxInt} {
		if m, e := c.Move(to, n); m != 0 || e != api.ErrChain {
			t.Errorf("Move(%d) = %d, %v, want ErrChain", n, m, e)
		}
	}
	holds(t, c, "abcdef")
	holds(t, to, full[3:])
	c.Drain(3)
	if m, e := c.Move(to, math.MaxInt); m != 3 || e != api.OK { // as many as there are may go
		t.Errorf("Move of all = %d, %v", m, e)
	}
	holds(t, c, "")
	holds(t, to, full[3:]+"def")
	if m, e := c.Move(to, 5); m != 0 || e != api.OK {
		t.Errorf("Move of nothing to a full chain = %d, %v", m, e)
	}
}

// TestMoveKeepsBytesInPlace moves a great chain to and fro: no memory is needed for it.
func TestMoveKeepsBytesInPlace(t *testing.T) {
	c, to := added(t, string(many(api.MaxChain))), added(t)
	if n := testing.AllocsPerRun(20, func() {
		c.Move(to, api.MaxChain)
		to.Move(c, api.MaxChain)
	}); n > 0 {
		t.Errorf("%v new pieces of memory", n)
	}
}

func TestArgumentsAreNotKept(t *testing.T) {
	for _, n := range []int{1, 5, 256, 300} {
		b := many(n)
		want := string(b)
		c, to := added(t, want), added(t)
		good(t, c.Add(b))
		good(t, c.Ahead(b))
		c.Find(b, 0)
		if _, e := c.Move(to, 2); e != api.OK || string(b) != want {
			t.Fatal(e, "or an argument was changed")
		}
		clear(b)
		holds(t, to, (want + want)[:2])
		holds(t, c, (want + want + want)[2:])
	}
}

// TestSlicesAreNew spoils each slice that was returned, and the room behind it.
func TestSlicesAreNew(t *testing.T) {
	spoil := func(b []byte) {
		b = b[:cap(b)]
		for i := range b {
			b[i] = '#'
		}
	}
	all := "abcd\n" + string(many(600))
	for _, c := range several(t, all) {
		spoil(c.Copy(0, 3))
		spoil(c.Copy(2, 400))
		for _, n := range []int{2, 2, 400, 400} { // of one chunk, and of several
			b, _ := c.Pull(n)
			spoil(b)
		}
		clear(c.Chunks())
		holds(t, c, all)
		spoil(c.Take(2))
		holds(t, c, all[2:])
		b, _ := c.Line()
		spoil(b)
		holds(t, c, all[5:])
		spoil(c.Take(300))
		holds(t, c, all[305:])
	}
}

// TestCopiedChain copies Chains, and not what they have: of what they answer nothing is promised, but they answer.
func TestCopiedChain(t *testing.T) {
	for n := range 12 {
		for m := range 12 {
			for rounds := range 4 {
				c := added(t, "abc", "def")
				good(t, c.Ahead([]byte("x\n")))
				d := *c
				c.Drain(n)
				c.Move(&d, m)
				for range rounds {
					d.Move(c, m)
					callAll(&d, n, m)
					callAll(c, m, n)
					c.Move(&d, n)
				}
				callAll(c, n, m)
				callAll(&d, m, n)
			}
		}
	}
}

func callAll(c *chain.Chain, n, m int) {
	c.Find([]byte("nowhere"), 0)
	c.Chunks()
	c.Copy(n, m)
	c.Copy(0, math.MaxInt)
	c.Add([]byte("gh"))
	c.Pull(n)
	c.Line()
	c.Take(m)
	c.Pull(c.Len())
	c.Ahead([]byte("ij"))
	c.Drain(n + m)
}

func TestChainsAreApart(t *testing.T) {
	c, d := added(t, "abc"), added(t, "xyz")
	c.Drain(1)
	good(t, d.Add([]byte("!")))
	holds(t, c, "bc")
	holds(t, d, "xyz!")
	if l := slices.Concat(c.Chunks(), d.Chunks()); !slices.Equal(l, []int{2, 4}) {
		t.Errorf("Chunks = %v", l)
	}
}

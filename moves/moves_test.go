package moves_test

import (
	"math"
	"slices"
	"testing"

	"roundhouse/api"
	"roundhouse/moves"
	"roundhouse/world"
)

// row is a row of the document's table: a move's word, and which fields it has.
type row struct {
	word          string
	wire, n, data bool
}

// rows is that table, by Op.
func rows() map[int]row {
	return map[int]row{
		1: {word: "put", wire: true, data: true},
		2: {word: "take", wire: true, n: true},
		3: {word: "shut", wire: true},
		4: {word: "close", wire: true},
		5: {word: "reset", wire: true},
		6: {word: "connect", wire: true, n: true},
		7: {word: "raise", n: true},
	}
}

// may says plainly whether a move is valid.
func may(m api.Move) bool {
	r, is := rows()[m.Op]
	if !is || m.Wire < 0 || m.N < 0 {
		return false
	}
	if r.data && (len(m.Data) == 0 || len(m.Data) > 1000) || !r.data && len(m.Data) > 0 {
		return false
	}
	return (r.wire || m.Wire == 0) && (r.n || m.N == 0)
}

// someMoves are moves of each kind of field in each combination, valid or not.
func someMoves() []api.Move {
	var l []api.Move
	numbers := []int{math.MinInt, -1, 0, 1, 7, 1 << 32, math.MaxInt}
	for _, op := range []int{math.MinInt, -7, -1, 0, 1, 2, 3, 4, 5, 6, 7, 8, 9, 1<<32 + 1, math.MaxInt} {
		for _, wire := range numbers {
			for _, n := range numbers {
				for _, data := range [][]byte{nil, {}, {0}, make([]byte, 999), make([]byte, 1000), make([]byte, 1001), make([]byte, 5000)} {
					l = append(l, api.Move{Op: op, Wire: wire, N: n, Data: data})
				}
			}
		}
	}
	return l
}

// raises is a step's moves: so many of them.
func raises(n int) []api.Move {
	return slices.Repeat([]api.Move{{Op: api.MoveRaise, N: 1}}, n)
}

// good fails unless a call was answered with OK.
func good(t *testing.T, call string, e api.Errno) {
	t.Helper()
	if e != api.OK {
		t.Fatalf("%s: %v", call, e)
	}
}

func TestCheckOfMoves(t *testing.T) {
	seen := map[int]int{}
	for _, m := range someMoves() {
		want := api.ErrStep
		if may(m) {
			want = api.OK
			seen[m.Op]++
		}
		// A move counts wherever it stands.
		for _, l := range [][]api.Move{{m}, {m, raises(1)[0]}, append(raises(api.MaxMoves-1), m)} {
			if e := moves.Check(api.Step{Moves: l}); e != want {
				t.Fatalf("Check of %d moves, one of them %d %d %d with %d bytes = %v, want %v", len(l), m.Op, m.Wire, m.N, len(m.Data), e, want)
			}
		}
	}
	if len(seen) != 7 {
		t.Errorf("valid moves: %v", seen)
	}
}

func TestCheckOfSteps(t *testing.T) {
	order := func(n, last int) []int { return append(make([]int, n-1), last) }
	for name, x := range map[string]api.Step{
		"zero":              {},
		"ticks":             {Ticks: api.Never},
		"only intr":         {Intr: true},
		"an empty order":    {Order: []int{}, Moves: []api.Move{}},
		"the least number":  {Order: []int{0}},
		"the most number":   {Order: []int{999}},
		"the longest order": {Order: order(50, 999)},
		"the most moves":    {Ticks: 1, Moves: raises(50)},
		"all":               {Ticks: 1 << 63, Intr: true, Order: []int{5, 5, 0, 999}, Moves: raises(2)},
	} {
		if e := moves.Check(x); e != api.OK {
			t.Errorf("Check of %s = %v, want OK", name, e)
		}
	}
	for name, x := range map[string]api.Step{
		"a negative number":    {Order: []int{-1}},
		"a number too great":   {Order: []int{1000}},
		"numbers far out":      {Order: []int{math.MinInt}},
		"the last number":      {Order: order(50, 1000)},
		"a wrapped number":     {Order: []int{1 << 32}},
		"too long an order":    {Order: order(51, 0)},
		"too many moves":       {Moves: raises(51)},
		"no such move":         {Moves: []api.Move{{}}},
		"a bad move of others": {Moves: append(raises(9), api.Move{Op: api.MoveShut, N: 1})},
	} {
		if e := moves.Check(x); e != api.ErrStep {
			t.Errorf("Check of %s = %v, want ErrStep", name, e)
		}
	}
}

// field is a world in which each move can do something: an outer socket with bytes both ways, a listener, a pipe, and a signal that is handled.
func field(t *testing.T) *world.World {
	t.Helper()
	w := world.New()
	_, _, e := w.Outer(8)
	good(t, "Outer", e)
	_, _, e = w.Listen(2)
	good(t, "Listen", e)
	_, _, e = w.Pipe(3)
	good(t, "Pipe", e)
	good(t, "Handle", w.Handle(3, true))
	w.Put(0, []byte("abc"))
	w.Write(0, []byte("12345"))
	return w
}

// direct does with a world what the document's table says of a move.
func direct(w *world.World, m api.Move) (int, api.Errno) {
	switch rows()[m.Op].word {
	case "put":
		return w.Put(m.Wire, m.Data)
	case "take":
		b, e := w.Take(m.Wire, m.N)
		return len(b), e
	case "shut":
		return 0, w.PeerShut(m.Wire)
	case "close":
		return 0, w.PeerClose(m.Wire)
	case "reset":
		return 0, w.Reset(m.Wire)
	case "connect":
		return w.Connect(m.Wire, m.N)
	}
	return 0, w.Raise(m.N)
}

func TestMake(t *testing.T) {
	for _, x := range []struct {
		m    api.Move
		want int
		e    api.Errno
	}{
		{api.Move{Op: api.MovePut, Data: []byte("de")}, 2, api.OK},
		{api.Move{Op: api.MovePut, Data: make([]byte, 1000)}, 5, api.OK},
		{api.Move{Op: api.MovePut, Wire: 2, Data: []byte("a")}, 0, api.ErrWire},
		{api.Move{Op: api.MoveTake, N: 0}, 0, api.OK},
		{api.Move{Op: api.MoveTake, N: 2}, 2, api.OK},
		{api.Move{Op: api.MoveTake, N: math.MaxInt}, 5, api.OK},
		{api.Move{Op: api.MoveTake, Wire: 1, N: 1}, 0, api.ErrWire},
		{api.Move{Op: api.MoveShut}, 0, api.OK},
		{api.Move{Op: api.MoveShut, Wire: math.MaxInt}, 0, api.ErrWire},
		{api.Move{Op: api.MoveClose}, 0, api.OK},
		{api.Move{Op: api.MoveClose, Wire: 3}, 0, api.ErrWire},
		{api.Move{Op: api.MoveReset}, 0, api.OK},
		{api.Move{Op: api.MoveReset, Wire: 2}, 0, api.ErrWire},
		{api.Move{Op: api.MoveConnect, Wire: 1, N: 9}, 3, api.OK},
		{api.Move{Op: api.MoveConnect, Wire: 1}, 0, api.ErrArg},
		{api.Move{Op: api.MoveConnect, N: 9}, 0, api.ErrWire},
		{api.Move{Op: api.MoveRaise, N: 3}, 0, api.OK},
		{api.Move{Op: api.MoveRaise, N: 4}, 0, api.OK},
		{api.Move{Op: api.MoveRaise}, 0, api.ErrSignal},
		{api.Move{Op: api.MoveRaise, N: 32}, 0, api.ErrSignal},
	} {
		v, w := field(t), field(t)
		n, e := moves.Make(w, x.m)
		if n != x.want || e != x.e {
			t.Errorf("Make(%+v) = %d, %v, want %d, %v", x.m, n, e, x.want, x.e)
		}
		if m, f := direct(v, x.m); m != n || f != e || !slices.Equal(v.Image(), w.Image()) {
			t.Errorf("Make(%+v) = %d, %v, the world %d, %v; %q, want %q", x.m, n, e, m, f, w.Image(), v.Image())
		}
	}
}

// TestMakeAfter: what the world answers once its wire is reset, or its end shut or closed.
func TestMakeAfter(t *testing.T) {
	put := api.Move{Op: api.MovePut, Data: []byte("a")}
	for op, want := range map[int]api.Errno{api.MoveShut: api.ErrPipe, api.MoveClose: api.ErrWire, api.MoveReset: api.ErrReset} {
		w := field(t)
		_, e := moves.Make(w, api.Move{Op: op})
		good(t, "Make", e)
		if n, e := moves.Make(w, put); n != 0 || e != want {
			t.Errorf("a put after %d = %d, %v, want %v", op, n, e, want)
		}
	}
}

func TestMakeRefuses(t *testing.T) {
	w := field(t)
	before := w.Image()
	for _, m := range someMoves() {
		if n, e := moves.Make(nil, m); n != 0 || e != api.ErrNil {
			t.Fatalf("Make in no world = %d, %v, want ErrNil", n, e)
		}
		want := api.ErrStep
		if may(m) {
			want = api.ErrNil
		} else if n, e := moves.Make(w, m); n != 0 || e != api.ErrStep {
			t.Fatalf("Make of %d %d %d with %d bytes = %d, %v, want ErrStep", m.Op, m.Wire, m.N, len(m.Data), n, e)
		}
		if n, e := moves.Make(&world.World{}, m); n != 0 || e != want {
			t.Fatalf("Make of %d %d %d with %d bytes in a zero World = %d, %v, want %v", m.Op, m.Wire, m.N, len(m.Data), n, e, want)
		}
	}
	if !slices.Equal(w.Image(), before) {
		t.Errorf("moves that are refused made %q of %q", w.Image(), before)
	}
}

func TestMakeReadsItsArgument(t *testing.T) {
	w := field(t)
	data := []byte("xyz---")
	if n, e := moves.Make(w, api.Move{Op: api.MovePut, Data: data[:3]}); n != 3 || e != api.OK || string(data) != "xyz---" {
		t.Fatalf("Make = %d, %v, and its data are %q", n, e, data)
	}
	copy(data, "------")
	if b, _, e := w.Read(0, 9); string(b) != "abcxyz" || e != api.OK {
		t.Errorf("Read = %q, %v", b, e)
	}
}

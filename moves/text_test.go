package moves_test

import (
	"fmt"
	"math"
	"regexp"
	"slices"
	"strconv"
	"strings"
	"testing"

	"roundhouse/api"
	"roundhouse/moves"
)

// same says whether two lists of steps are equal, nil or empty being one.
func same(a, b []api.Step) bool {
	return slices.EqualFunc(a, b, func(x, y api.Step) bool {
		return x.Ticks == y.Ticks && x.Intr == y.Intr && slices.Equal(x.Order, y.Order) && slices.EqualFunc(x.Moves, y.Moves, func(m, n api.Move) bool {
			return m.Op == n.Op && m.Wire == n.Wire && m.N == n.N && slices.Equal(m.Data, n.Data)
		})
	})
}

// plainText writes steps word by word.
func plainText(l []api.Step) string {
	var b strings.Builder
	for _, x := range l {
		words := []string{"step", fmt.Sprint(x.Ticks)}
		if x.Intr {
			words = append(words, "intr")
		}
		if len(x.Order) > 0 {
			words = append(words, "order", strings.ReplaceAll(strings.Trim(fmt.Sprint(x.Order), "[]"), " ", ","))
		}
		for _, m := range x.Moves {
			r := rows()[m.Op]
			words = append(words, r.word)
			if r.wire {
				words = append(words, fmt.Sprint(m.Wire))
			}
			if r.n {
				words = append(words, fmt.Sprint(m.N))
			}
			if r.data {
				words = append(words, fmt.Sprintf("%x", m.Data))
			}
		}
		b.WriteString(strings.Join(words, " ") + "\n")
	}
	return b.String()
}

// shape is what a line is made of, with numbers of any size (N) and bytes (H).
var shape = regexp.MustCompile(strings.NewReplacer("N", "(0|[1-9][0-9]*)", "H", "([0-9a-f][0-9a-f])+").Replace(
	`^step N( intr)?( order N(,N)*)?( put N H| (take|connect) N N| (shut|close|reset) N| raise N)*$`))

// isLine says plainly whether a line is the text of a valid step.
func isLine(line string) bool {
	if !shape.MatchString(line) {
		return false
	}
	words := strings.Split(line, " ")
	if _, err := strconv.ParseUint(words[1], 10, 64); err != nil {
		return false
	}
	moves := 0
	for i, word := range words[2:] {
		before := words[i+1]
		switch {
		case before == "order":
			for _, n := range strings.Split(word, ",") {
				if len(n) > 3 || strings.Count(word, ",") >= 50 {
					return false
				}
			}
		case i > 0 && words[i] == "put":
			if len(word) > 2000 {
				return false
			}
		case word[0] >= 'a' && word != "intr" && word != "order":
			moves++
		case word[0] <= '9':
			if _, err := strconv.ParseInt(word, 10, 64); err != nil {
				return false
			}
		}
	}
	return moves <= 50
}

// checkLine fails unless a line is parsed if it is the text of a step, and refused if it is not.
func checkLine(t *testing.T, line string) {
	t.Helper()
	l, n, e := moves.Parse(line + "\n")
	if !isLine(line) {
		if l != nil || n != 1 || e != api.ErrLine {
			t.Fatalf("Parse(%.200q) = %v, %d, %v, want ErrLine in line 1", line, l, n, e)
		}
		return
	}
	if len(l) != 1 || n != 0 || e != api.OK || moves.Check(l[0]) != api.OK {
		t.Fatalf("Parse(%.200q) = %v, %d, %v, want a step", line, l, n, e)
	}
	if s, e := moves.Text(l); s != line+"\n" || e != api.OK {
		t.Fatalf("Parse(%.200q), whose text is %.200q, %v", line, s, e)
	}
}

func TestTextOfExamples(t *testing.T) {
	l := []api.Step{{Ticks: 5, Intr: true, Order: []int{2, 0}, Moves: []api.Move{{Op: api.MovePut, Data: []byte("ab")}, {Op: api.MoveRaise, N: 3}}}}
	const want = "step 5 intr order 2,0 put 0 6162 raise 3\n"
	if s, e := moves.Text(l); s != want || e != api.OK {
		t.Errorf("Text = %q, %v, want %q", s, e, want)
	}
	if back, n, e := moves.Parse(want); !same(back, l) || n != 0 || e != api.OK {
		t.Errorf("Parse = %v, %d, %v", back, n, e)
	}
	for s, want := range map[string]int{"step 05\n": 1, "step 1": 1, "step 1 put 0 6\n": 1, "step 1\nx\n": 2} {
		if l, n, e := moves.Parse(s); l != nil || n != want || e != api.ErrLine {
			t.Errorf("Parse(%q) = %v, %d, %v, want ErrLine in line %d", s, l, n, e, want)
		}
	}
}

// texts are steps by their texts.
func texts() map[string]api.Step {
	var all []byte
	for b := range 256 {
		all = append(all, byte(b))
	}
	return map[string]api.Step{
		"step 0":                            {},
		"step 18446744073709551615":         {Ticks: math.MaxUint64},
		"step 10 intr":                      {Ticks: 10, Intr: true},
		"step 0 order 0":                    {Order: []int{0}},
		"step 0 order 999,0,10,0":           {Order: []int{999, 0, 10, 0}},
		"step 1 intr order 7":               {Ticks: 1, Intr: true, Order: []int{7}},
		"step 1 put 0 00":                   {Ticks: 1, Moves: []api.Move{{Op: 1, Data: []byte{0}}}},
		"step 1 put 12 0f10a0ff":            {Ticks: 1, Moves: []api.Move{{Op: 1, Wire: 12, Data: []byte{15, 16, 160, 255}}}},
		fmt.Sprintf("step 1 put 0 %x", all): {Ticks: 1, Moves: []api.Move{{Op: 1, Data: all}}},
		"step 1 take 3 0":                   {Ticks: 1, Moves: []api.Move{{Op: 2, Wire: 3}}},
		"step 1 take 0 9223372036854775807": {Ticks: 1, Moves: []api.Move{{Op: 2, N: math.MaxInt64}}},
		"step 1 shut 9223372036854775807":   {Ticks: 1, Moves: []api.Move{{Op: 3, Wire: math.MaxInt64}}},
		"step 1 close 10":                   {Ticks: 1, Moves: []api.Move{{Op: 4, Wire: 10}}},
		"step 1 reset 0":                    {Ticks: 1, Moves: []api.Move{{Op: 5}}},
		"step 1 connect 2 65536":            {Ticks: 1, Moves: []api.Move{{Op: 6, Wire: 2, N: 65536}}},
		"step 1 raise 0":                    {Ticks: 1, Moves: []api.Move{{Op: 7}}},
		"step 1 raise 31":                   {Ticks: 1, Moves: []api.Move{{Op: 7, N: 31}}},
		"step 2 intr order 1,2 raise 1 take 4 5 put 6 07 shut 8 connect 9 10 reset 11 close 12": {Ticks: 2, Intr: true, Order: []int{1, 2}, Moves: []api.Move{
			{Op: 7, N: 1}, {Op: 2, Wire: 4, N: 5}, {Op: 1, Wire: 6, Data: []byte{7}}, {Op: 3, Wire: 8}, {Op: 6, Wire: 9, N: 10}, {Op: 5, Wire: 11}, {Op: 4, Wire: 12},
		}},
		"step 0" + strings.Repeat(" shut 1", 50):     {Moves: slices.Repeat([]api.Move{{Op: 3, Wire: 1}}, 50)},
		"step 0 order 1" + strings.Repeat(",1", 49):  {Order: slices.Repeat([]int{1}, 50)},
		"step 0 put 0 " + strings.Repeat("61", 1000): {Moves: []api.Move{{Op: 1, Data: []byte(strings.Repeat("a", 1000))}}},
	}
}

func TestTextAndParse(t *testing.T) {
	var all []api.Step
	whole := ""
	for line, x := range texts() {
		if !isLine(line) {
			t.Errorf("%.200q is taken for no line", line)
		}
		for range 3 {
			all = append(all, x)
			whole += line + "\n"
			if s, e := moves.Text(all); s != whole || e != api.OK {
				t.Fatalf("Text = %.200q, %v, want %.200q", s, e, whole)
			}
			if l, n, e := moves.Parse(whole); !same(l, all) || n != 0 || e != api.OK {
				t.Fatalf("Parse(%.200q) = %v, %d, %v", whole, l, n, e)
			}
		}
	}
	if s, e := moves.Text(nil); s != "" || e != api.OK {
		t.Errorf("Text of no steps = %q, %v", s, e)
	}
	if l, n, e := moves.Parse(""); l != nil || n != 0 || e != api.OK {
		t.Errorf("Parse of nothing = %v, %d, %v", l, n, e)
	}
}

func TestTextRefuses(t *testing.T) {
	for _, m := range someMoves() {
		l := []api.Step{{}, {Moves: []api.Move{m}}}
		s, e := moves.Text(l)
		if !may(m) && (s != "" || e != api.ErrStep) {
			t.Fatalf("Text of %d %d %d with %d bytes = %.200q, %v, want ErrStep", m.Op, m.Wire, m.N, len(m.Data), s, e)
		}
		if may(m) && (s != plainText(l) || e != api.OK) {
			t.Fatalf("Text = %.200q, %v, want %.200q", s, e, plainText(l))
		}
	}
	for _, x := range []api.Step{{Order: []int{1000}}, {Order: []int{-1}}, {Order: make([]int, 51)}, {Moves: raises(51)}} {
		for _, l := range [][]api.Step{{x}, {x, {}}, {{}, x}, append(make([]api.Step, 1999), x)} {
			if s, e := moves.Text(l); s != "" || e != api.ErrStep {
				t.Errorf("Text of %d steps = %.200q, %v, want ErrStep", len(l), s, e)
			}
		}
	}
}

func TestMostSteps(t *testing.T) {
	for _, n := range []int{1999, 2000, 2001, 2002, 4000} {
		l, text := make([]api.Step, n), strings.Repeat("step 0\n", n)
		s, e := moves.Text(l)
		back, line, f := moves.Parse(text)
		if n <= 2000 && (s != text || e != api.OK || !same(back, l) || line != 0 || f != api.OK) {
			t.Errorf("%d steps: %d bytes, %v; Parse: %d, %d, %v", n, len(s), e, len(back), line, f)
		}
		if n > 2000 && (s != "" || e != api.ErrStep || back != nil || line != 2001 || f != api.ErrLine) {
			t.Errorf("%d steps: %d bytes, %v; Parse: %d, %d, %v", n, len(s), e, len(back), line, f)
		}
	}
}

// TestParseTellsTheFirstLine: what is wrong behind it does not count, nor what is good.
func TestParseTellsTheFirstLine(t *testing.T) {
	good := strings.Repeat("step 3 raise 1\n", 1999)
	for s, want := range map[string]int{
		"\n": 1, "\n\n": 1, "step 1\n\n": 2, "step 1\n\nstep 1\n": 2, "\nstep 1\n": 1,
		"step 1\nstep 1\nstep 1": 3, "step 1\nstep x\nstep 1": 2, "x\nx\n": 1, "step 1\r\n": 1, "step 1\n\r": 2, "step 1\n ": 2,
		"step 1\vstep 1\n": 1, "step 1\x00\n": 1, "step 1\n\x00": 2, "step 1\u2028step 1\n": 1,
		good + "x\n": 2000, good + "step 1": 2000, good + "step 1\nx": 2001, good + "step 1\n\n": 2001, good + "step 1\nstep 1\nx\n": 2001,
	} {
		if l, n, e := moves.Parse(s); l != nil || n != want || e != api.ErrLine {
			t.Errorf("Parse(%.50q) = %d steps, %d, %v, want ErrLine in line %d", s, len(l), n, e, want)
		}
	}
}

func TestParseRefuses(t *testing.T) {
	for _, line := range []string{
		"", " ", "step", "step ", " step 1", "step 1 ", "step  1", "Step 1", "STEP 1", "steps 1", "ste 1", "1", "1 step", "step step 1", "step 1 step 1", "step 1 2",
		"step -1", "step +1", "step 01", "step 00", "step 1.0", "step 1e3", "step 0x1", "step 1_0", "step ٣", "step 18446744073709551616", "step 99999999999999999999999",
		"step intr 1", "intr 1", "step intr", "step 1 intr intr", "step 1 Intr", "step 1 int", "step 1 intr 1", "step 1 intr ", "step 1 shut 0 intr", "step 1 order 1 intr",
		"step 1 order", "step 1 order ", "step 1 order  1", "step 1 order ,", "step 1 order 1,", "step 1 order ,1", "step 1 order 1,,2", "step 1 order 1, 2", "step 1 order 1 2",
		"step 1 order 01", "step 1 order 1000", "step 1 order 1,1000", "step 1 order -1", "step 1 order +1", "step 1 order x", "step 1 order 9223372036854775808", "step 1 order 18446744073709551617",
		"step 1 order 1 order 2", "step 1 shut 0 order 1", "step 1 order intr", "step 1 order order 1", "step 1 order none", "step 1 order 1;2",
		"step 0 order 1" + strings.Repeat(",1", 50), "step 0 order 1" + strings.Repeat(",1", 5000),
		"step 1 put", "step 1 put 0", "step 1 put 0 ", "step 1 put 0 6", "step 1 put 0 616", "step 1 put 0 6G", "step 1 put 0 g6", "step 1 put 0 6A", "step 1 put 0 A6", "step 1 put 0 0x61", "step 1 put 0  61",
		"step 1 put 61", "step 1 put 0 61 62", "step 1 put -1 61", "step 1 put 00 61", "step 1 put 0 +1", "step 1 put 0 \u0661\u0661", "step 1 put 0 /0", "step 1 put 0 :0", "step 1 put 0 `0", "step 1 put x 61",
		"step 0 put 0 " + strings.Repeat("61", 1001), "step 0 put 0 " + strings.Repeat("6", 1999), "step 0 put 0 " + strings.Repeat("0", 1<<20),
		"step 1 take", "step 1 take 0", "step 1 take 0 ", "step 1 take 0 -1", "step 1 take 0 01", "step 1 take 0 x", "step 1 take 0 1 2", "step 1 take 0 9223372036854775808", "step 1 take 9223372036854775808 0", "step 1 take shut 0",
		"step 1 shut", "step 1 shut ", "step 1 shut x", "step 1 shut -1", "step 1 shut 0 1", "step 1 shut 0 61", "step 1 shut 18446744073709551616", "step 1 shut shut 0",
		"step 1 close", "step 1 close 00", "step 1 reset", "step 1 reset +0", "step 1 connect 1", "step 1 connect", "step 1 connect 1 09", "step 1 connect 1 9 9",
		"step 1 raise", "step 1 raise ", "step 1 raise 03", "step 1 raise -3", "step 1 raise 3 3", "step 1 raise 3 61",
		"step 1 fly", "step 1 fly 0", "step 1 Put 0 61", "step 1 PUT 0 61", "step 1 pu 0 61", "step 1 puts 0 61", "step 1 none", "step 1  shut 0", "step 1 shut 0  shut 0", "step 1 shut  0", "step 1\tshut 0", "step 1, shut 0",
		"step 0" + strings.Repeat(" shut 1", 51), "step 0" + strings.Repeat(" shut 1", 5000), "step 0" + strings.Repeat(" ", 5000), strings.Repeat("step 0 ", 5000), strings.Repeat("9", 5000), "step " + strings.Repeat("9", 5000),
	} {
		if isLine(line) {
			t.Errorf("%.200q is taken for a line", line)
		}
		checkLine(t, line)
		if l, n, e := moves.Parse("step 1\n" + line + "\nstep 2\n"); l != nil || n != 2 || e != api.ErrLine {
			t.Errorf("%.200q in line 2: %v, %d, %v, want ErrLine in line 2", line, l, n, e)
		}
	}
}

// TestParseOfJoinedWords joins words in each way.
func TestParseOfJoinedWords(t *testing.T) {
	level := []string{"step 1"}
	for range 4 {
		var next []string
		for _, s := range level {
			for _, word := range []string{"step", "intr", "order", "put", "take", "raise", "close", "1,2", "0", "61", ""} {
				next = append(next, s+" "+word)
			}
		}
		for _, s := range next {
			checkLine(t, s)
		}
		level = next
	}
}

// TestParseOfChangedTexts leaves out, doubles or replaces each byte of each text.
func TestParseOfChangedTexts(t *testing.T) {
	for s := range texts() {
		if len(s) > 100 {
			continue
		}
		for i := range s {
			checkLine(t, s[:i])
			checkLine(t, s[i:])
			checkLine(t, s[:i]+s[i+1:])
			checkLine(t, s[:i+1]+s[i:])
			for _, b := range []string{" ", ",", "0", "1", "9", "a", "f", "g", "A", "-", "\r", "\x00", "\xff"} {
				checkLine(t, s[:i]+b+s[i+1:])
				checkLine(t, s[:i]+b+s[i:])
			}
		}
	}
}

// TestParsedIsNew writes into all that Parse answers: nothing else of it is changed, nor a later answer.
func TestParsedIsNew(t *testing.T) {
	const line = "step 1 order 1,2 put 0 6162 put 0 6162\n"
	l, _, _ := moves.Parse(line + line)
	_, _, _ = append(l[0].Moves[0].Data, '-'), append(l[0].Moves, api.Move{Op: 9}), append(l[0].Order, 9)
	clear(l[0].Moves[0].Data)
	clear(l[0].Order)
	if string(l[0].Moves[1].Data) != "ab" {
		t.Errorf("the other move's data: %q", l[0].Moves[1].Data)
	}
	clear(l[0].Moves)
	if s, e := moves.Text(l[1:]); s != line || e != api.OK {
		t.Errorf("the other step: %q, %v", s, e)
	}
	clear(l)
	if again, _, e := moves.Parse(line); e != api.OK || plainText(again) != line {
		t.Errorf("Parse again = %v, %v", again, e)
	}
}

func TestTextReadsItsArgument(t *testing.T) {
	for _, x := range texts() {
		l := []api.Step{x}
		before := plainText(l)
		for range 2 {
			if s, e := moves.Text(l); s != before || e != api.OK {
				t.Fatalf("Text = %.200q, %v, want %.200q", s, e, before)
			}
		}
		if plainText(l) != before {
			t.Fatalf("Text made %v of its argument", l)
		}
	}
}

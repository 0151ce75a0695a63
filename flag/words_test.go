package flag_test

import (
	"math"
	"strings"
	"testing"

	"roundhouse/api"
	"roundhouse/flag"
)

// kind is one of the two kinds of masks: its words in the order of their bits, and the calls that tell of them.
type kind struct {
	name  string
	words []string
	text  func(int) (string, api.Errno)
	parse func(string) (int, api.Errno)
}

func kinds() []kind {
	return []kind{
		{"flags", []string{"timeout", "read", "write", "signal", "persist", "edge"}, flag.Text, flag.Parse},
		{"features", []string{"edge", "big", "signals", "changes"}, flag.FeatText, flag.FeatParse},
	}
}

// plain is a mask's words told as plainly as can be.
func (k kind) plain(mask int) string {
	if mask == 0 {
		return "none"
	}
	var said []string
	for n, word := range k.words {
		if mask>>n&1 == 1 {
			said = append(said, word)
		}
	}
	return strings.Join(said, "+")
}

// masks is each mask of the kind by its words.
func (k kind) masks() map[string]int {
	m := map[string]int{}
	for mask := range 1 << len(k.words) {
		m[k.plain(mask)] = mask
	}
	return m
}

func TestWordsOfExamples(t *testing.T) {
	for _, x := range []struct {
		mask int
		want string
	}{
		{22, "read+write+persist"}, {0, "none"}, {1, "timeout"}, {2, "read"}, {4, "write"}, {8, "signal"}, {16, "persist"}, {32, "edge"},
		{api.Timeout | api.Edge, "timeout+edge"}, {api.Signal | api.Persist, "signal+persist"},
		{63, "timeout+read+write+signal+persist+edge"},
	} {
		if s, e := flag.Text(x.mask); s != x.want || e != api.OK {
			t.Errorf("Text(%d) = %q, %v, want %q", x.mask, s, e, x.want)
		}
	}
	for _, x := range []struct {
		mask int
		want string
	}{
		{0, "none"}, {1, "edge"}, {2, "big"}, {4, "signals"}, {8, "changes"},
		{api.FeatEdge | api.FeatChanges, "edge+changes"}, {api.FeatBig | api.FeatSignals, "big+signals"}, {15, "edge+big+signals+changes"},
	} {
		if s, e := flag.FeatText(x.mask); s != x.want || e != api.OK {
			t.Errorf("FeatText(%d) = %q, %v, want %q", x.mask, s, e, x.want)
		}
	}
}

func TestTextOfEveryMask(t *testing.T) {
	for _, k := range kinds() {
		for mask := range 1 << len(k.words) {
			s, e := k.text(mask)
			if s != k.plain(mask) || e != api.OK {
				t.Errorf("%s: the text of %d is %q, %v, want %q", k.name, mask, s, e, k.plain(mask))
			}
			if back, e := k.parse(s); back != mask || e != api.OK {
				t.Errorf("%s: %q is parsed to %d, %v, want %d", k.name, s, back, e, mask)
			}
		}
	}
}

// TestTextRefuses gives each mask a bit that the kind does not have, one by one, then all.
func TestTextRefuses(t *testing.T) {
	for _, k := range kinds() {
		for mask := range 1 << len(k.words) {
			strange := []int{math.MinInt, -1 << len(k.words)}
			for n := len(k.words); n < 63; n++ {
				strange = append(strange, 1<<n)
			}
			for _, bits := range strange {
				if s, e := k.text(mask | bits); s != "" || e != api.ErrFlag {
					t.Fatalf("%s: the text of %d is %q, %v, want ErrFlag", k.name, mask|bits, s, e)
				}
			}
		}
	}
}

func TestParseRefuses(t *testing.T) {
	for _, k := range kinds() {
		for _, s := range []string{
			"", "+", "++", "0", "1", "22", "64", "None", "NONE", " none", "none ", "none+", "+none", "none+none", "none+edge", "edge+none",
			"write+read", "read+read", "read++write", "+read", "read+", "read +write", "read, write", "read,write", "read|write", "Read", "READ", "rea", "reads", "readwrite",
			"big+edge", "edge+edge", "edge++big", "+edge", "edge+", "edge +big", "edge,big", "Edge", "edg", "edges", "edgebig", "edge+bi", "edge+bigg",
			"persist+timeout", "signals+big", "active", "nothing", "read+active", "\x00", "edge\x00", "edge\n", "\xff", "read\uff0bwrite",
			strings.Repeat("edge+", 1000) + "edge", strings.Repeat("+", 1<<16), strings.Repeat("e", 1<<20),
		} {
			if mask, e := k.parse(s); mask != 0 || e != api.ErrFlag {
				t.Errorf("%s: %.40q is parsed to %d, %v, want ErrFlag", k.name, s, mask, e)
			}
		}
	}
}

// TestParseOtherKind: the words of one kind are none of the other, where their texts differ.
func TestParseOtherKind(t *testing.T) {
	for _, s := range []string{"signals", "big", "changes", "edge+big", "timeout+changes"} {
		if mask, e := flag.Parse(s); mask != 0 || e != api.ErrFlag {
			t.Errorf("Parse(%q) = %d, %v, want ErrFlag", s, mask, e)
		}
	}
	for _, s := range []string{"signal", "read", "persist", "persist+edge", "timeout"} {
		if mask, e := flag.FeatParse(s); mask != 0 || e != api.ErrFlag {
			t.Errorf("FeatParse(%q) = %d, %v, want ErrFlag", s, mask, e)
		}
	}
	if mask, e := flag.Parse("edge"); mask != 32 || e != api.OK {
		t.Errorf("Parse(edge) = %d, %v", mask, e)
	}
	if mask, e := flag.FeatParse("edge"); mask != 1 || e != api.OK {
		t.Errorf("FeatParse(edge) = %d, %v", mask, e)
	}
}

// TestParseOfJoinedWords joins up to five words in each way: no text is parsed but that of a mask.
func TestParseOfJoinedWords(t *testing.T) {
	for _, k := range kinds() {
		masks := k.masks()
		words := append([]string{"none", ""}, k.words...)
		level := []string{""}
		for deep := range 5 {
			var next []string
			for _, s := range level {
				for _, word := range words {
					joined := s + "+" + word
					if deep == 0 {
						joined = word
					}
					next = append(next, joined)
					checkParse(t, k, masks, joined)
				}
			}
			level = next
		}
	}
}

// TestParseOfChangedTexts leaves out, doubles or replaces each byte of each text.
func TestParseOfChangedTexts(t *testing.T) {
	for _, k := range kinds() {
		masks := k.masks()
		for s := range masks {
			for i := range s {
				checkParse(t, k, masks, s[:i]+s[i+1:])
				checkParse(t, k, masks, s[:i+1]+s[i:])
				for _, b := range []string{"+", " ", "e", "s", "S", "\x00", "\xff"} {
					checkParse(t, k, masks, s[:i]+b+s[i+1:])
					checkParse(t, k, masks, s[:i]+b+s[i:])
				}
			}
			checkParse(t, k, masks, s+"+")
			checkParse(t, k, masks, s+" ")
		}
	}
}

// checkParse fails unless s is parsed to the mask whose text it is, and refused if there is none.
func checkParse(t *testing.T, k kind, masks map[string]int, s string) {
	t.Helper()
	want, is := masks[s]
	mask, e := k.parse(s)
	if !is && (mask != 0 || e != api.ErrFlag) {
		t.Fatalf("%s: %q is parsed to %d, %v, want ErrFlag", k.name, s, mask, e)
	}
	if is && (mask != want || e != api.OK) {
		t.Fatalf("%s: %q is parsed to %d, %v, want %d", k.name, s, mask, e, want)
	}
	if is {
		if back, e := k.text(mask); back != s || e != api.OK {
			t.Fatalf("%s: %q is parsed to %d, whose text is %q, %v", k.name, s, mask, back, e)
		}
	}
}

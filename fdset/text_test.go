package fdset_test

import (
	"regexp"
	"strconv"
	"strings"
	"testing"

	"roundhouse/api"
	"roundhouse/fdset"
)

// text writes the runs of a plain set.
func (p plain) text() string {
	var runs []string
	for fd := 0; fd < len(p); fd++ {
		if !p[fd] {
			continue
		}
		run, last := strconv.Itoa(fd), fd
		for last+1 < len(p) && p[last+1] {
			last++
		}
		if last > fd {
			run += "-" + strconv.Itoa(last)
		}
		runs = append(runs, run)
		fd = last
	}
	if runs == nil {
		return "none"
	}
	return strings.Join(runs, ",")
}

// isText says plainly whether a text is that of a set: it is what the set of all its numbers is written as.
func isText(text string) (plain, bool) {
	var p plain
	if text != "none" && !regexp.MustCompile(`^\d{1,2}(-\d{1,2})?(,\d{1,2}(-\d{1,2})?)*$`).MatchString(text) {
		return p, false
	}
	for _, ends := range regexp.MustCompile(`(\d+)(?:-(\d+))?`).FindAllStringSubmatch(text, -1) {
		first, _ := strconv.Atoi(ends[1])
		last := first
		if ends[2] != "" {
			last, _ = strconv.Atoi(ends[2])
		}
		for fd := first; fd <= last; fd++ {
			if fd >= len(p) {
				return p, false
			}
			p[fd] = true
		}
	}
	return p, p.text() == text
}

func TestText(t *testing.T) {
	for _, c := range []struct {
		l    []int
		want string
	}{
		{nil, "none"}, {[]int{0}, "0"}, {[]int{31}, "31"}, {[]int{32}, "32"}, {[]int{63}, "63"},
		{[]int{0, 1}, "0-1"}, {[]int{0, 2}, "0,2"}, {[]int{31, 32}, "31-32"}, {[]int{62, 63}, "62-63"}, {[]int{0, 63}, "0,63"},
		{[]int{3, 1, 2, 9, 3}, "1-3,9"}, {[]int{30, 31, 33, 34, 35}, "30-31,33-35"}, {[]int{9, 10, 11}, "9-11"},
	} {
		if s, e := fdset.Of(c.l); e != api.OK || s.Text() != c.want {
			t.Errorf("Of(%v).Text() = %q, %v, want %q", c.l, s.Text(), e, c.want)
		}
	}
	if full := (fdset.Set{1<<32 - 1, 1<<32 - 1}); full.Text() != "0-63" {
		t.Errorf("the text of the full set: %q", full.Text())
	}
}

func TestTextOfSamples(t *testing.T) {
	for _, p := range samples() {
		if s := p.set(t); s.Text() != p.text() {
			t.Errorf("%v: %q, want %q", p.list(), s.Text(), p.text())
		}
	}
}

func TestParse(t *testing.T) {
	for text, want := range map[string]fdset.Set{
		"none": {}, "0": {1}, "63": {0, 1 << 31}, "31-32": {1 << 31, 1}, "0-63": {1<<32 - 1, 1<<32 - 1}, "1-3,9": {526, 0},
		"0,2": {5}, "62-63": {0, 3 << 30}, "0-31": {1<<32 - 1}, "32-63": {0, 1<<32 - 1},
	} {
		if s, e := fdset.Parse(text); s != want || e != api.OK {
			t.Errorf("Parse(%q) = %v, %v, want %v", text, s, e, want)
		}
	}
}

func TestParseWrong(t *testing.T) {
	for _, text := range []string{
		"", " ", "None", "NONE", "none,1", "1,none", "none-1", "non", "nonee", " none", "none ", "none\n",
		"1,2", "1-2,3", "0-30,31-63", "1,2-3", "3-3", "3-1", "63-64", "62-64", "64", "0-64", "99", "64-65", "100", "18446744073709551616", "9223372036854775808",
		"01", "00", "1-03", "001", "0-01", "-1", "-0", "+1", "1-+3", "1--3", "-", "--", "1-", "-3", "1-3-5", "1-3-",
		",", "1,", ",1", "1,,3", "1-3,", "3,1", "1,1", "1-5,3", "1-3,2-5", "5-7,1-3", "1 ,3", "1, 3", "1\t", "1;3", "1.5", "1-3,9x", "x",
		"0x1", "1e1", "1_0", "١", "１", "1\x00", "\xff", "1–3", strings.Repeat("1,", 1000), strings.Repeat("9", 10000), strings.Repeat("-", 10000),
	} {
		if s, e := fdset.Parse(text); s != (fdset.Set{}) || e != api.ErrSetText {
			t.Errorf("Parse(%.40q) = %v, %v, want ErrSetText and no set", text, s, e)
		}
	}
}

// TestParseOfShortTexts goes through every text of up to five bytes that could be one.
func TestParseOfShortTexts(t *testing.T) {
	texts := []string{""}
	for at := 0; at < len(texts); at++ {
		text := texts[at]
		want, is := isText(text)
		s, e := fdset.Parse(text)
		if is && (e != api.OK || s != want.set(t) || s.Text() != text) {
			t.Fatalf("Parse(%q) = %v, %v, whose text is %q", text, s.All(), e, s.Text())
		}
		if !is && (e != api.ErrSetText || s != fdset.Set{}) {
			t.Fatalf("Parse(%q) = %v, %v, want ErrSetText and no set", text, s.All(), e)
		}
		if len(text) < 5 {
			for _, c := range "01346-," {
				texts = append(texts, text+string(c))
			}
		}
	}
}

func TestParseOfTextIsTheSet(t *testing.T) {
	for _, p := range samples() {
		s := p.set(t)
		u, e := fdset.Parse(s.Text())
		if e != api.OK || u != s || u.Text() != s.Text() {
			t.Errorf("%q: %q, %v", s.Text(), u.Text(), e)
		}
	}
}

func TestExamples(t *testing.T) {
	s, _ := fdset.Of([]int{3, 1, 2, 9, 3})
	var none fdset.Set
	if s.Text() != "1-3,9" || none.Text() != "none" {
		t.Error(s.Text(), none.Text())
	}
	s, _ = fdset.Parse("1-3,9")
	if n, is := s.Next(4); n != 9 || !is || s.Top() != 9 || s.Below(3).Len() != 2 {
		t.Error(n, is, s.Top(), s.Below(3).Len())
	}
	if none.Top() != -1 {
		t.Error(none.Top())
	}
	if n, is := none.Next(0); n != 0 || is {
		t.Error(n, is)
	}
}

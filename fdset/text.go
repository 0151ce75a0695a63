package fdset

import (
	"strconv"
	"strings"

	"roundhouse/api"
)

// emptyText is the text of the empty set, which has no run to write.
const emptyText = "none"

// Text is the set's text: its runs in ascending order.
func (s Set) Text() string {
	if s == (Set{}) {
		return emptyText
	}
	var out []byte
runs:
	for first := range s.firsts().members() {
		for last := first; ; last++ {
			if s.Has(last + 1) {
				continue
			}
			out = appendRun(out, first, last)
			continue runs
		}
	}
	return string(out)
}

// Parse is the set of a text, or ErrSetText if no set has that text.
func Parse(text string) (Set, api.Errno) {
	if text == emptyText {
		return Set{}, api.OK
	}
	var s Set
	least := 0
	for run := range strings.SplitSeq(text, ",") {
		first, last, ok := parseRun(run)
		if !ok || first < least {
			return Set{}, api.ErrSetText
		}
		for fd := first; fd <= last; fd++ {
			s.put(fd)
		}
		// A run is maximal, so the next one leaves at least one descriptor out.
		least = last + 2
	}
	return s, api.OK
}

// firsts is the set of the descriptors with which a run begins: those whose predecessor is not in s.
func (s Set) firsts() Set {
	followers := Set{s[0] << 1, s[1]<<1 | s[0]>>(wordBits-1)}
	return s.Less(followers)
}

// appendRun writes a run behind those that are there.
func appendRun(out []byte, first, last int) []byte {
	if len(out) > 0 {
		out = append(out, ',')
	}
	out = strconv.AppendInt(out, int64(first), 10)
	if first < last {
		out = append(out, '-')
		out = strconv.AppendInt(out, int64(last), 10)
	}
	return out
}

// parseRun reads a run as appendRun writes it.
func parseRun(run string) (first, last int, ok bool) {
	head, tail, long := strings.Cut(run, "-")
	first, ok = parseFd(head)
	if !ok || !long {
		return first, first, ok
	}
	last, ok = parseFd(tail)
	return first, last, ok && first < last
}

// parseFd reads a descriptor in digits.
func parseFd(digits string) (int, bool) {
	fd, err := strconv.Atoi(digits)
	// Atoi also takes signs and leading zeros, which the text of a set never has.
	if err != nil || !fits(fd) || strconv.Itoa(fd) != digits {
		return 0, false
	}
	return fd, true
}

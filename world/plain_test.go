package world_test

import (
	"fmt"
	"maps"
	"slices"

	"roundhouse/api"
)

// plain is a world told as plainly as can be: of each wire all that ever came to pass, from which the rest is told anew each time. The tests hold a World against it.
type plain struct {
	now     uint64
	lines   []*line
	fds     map[int]tip
	handled map[int]int // how often each handled signal is pending
	notice  tip         // of no line if there is none
}

// line is a wire.
type line struct {
	kind     string // pipe, pair, outer or listen; a connection is an outer
	capacity int    // or the backlog
	accepted bool   // of a connection, or it never was one
	waiting  []int
	past     []past
}

// past is one thing that came to pass at an end of a wire: came (bytes into its ring), went (out of it), shut, closed; reset and wait are at no end.
type past struct {
	what string
	end  int
	b    string
}

// tip is an end of a wire.
type tip struct {
	l   *line
	end int
}

func newPlain() *plain {
	return &plain{fds: map[int]tip{}, handled: map[int]int{}}
}

// times is how often a thing came to pass.
func (l *line) times(what string, end int) int {
	n := 0
	for _, x := range l.past {
		if x.what == what && x.end == end {
			n++
		}
	}
	return n
}

func (l *line) add(what string, end int, b string) {
	if b != "" || what != "came" && what != "went" {
		l.past = append(l.past, past{what, end, b})
	}
}

func (l *line) reset() bool { return l.times("reset", 0) > 0 }

func (x tip) other() tip   { return tip{x.l, 1 - x.end} }
func (x tip) shut() bool   { return x.l.times("shut", x.end) > 0 }
func (x tip) closed() bool { return x.l.times("closed", x.end) > 0 }

func (x tip) canRead() bool {
	return x.l.kind == "pair" || x.l.kind == "outer" || x.l.kind == "pipe" && x.end == 0
}

func (x tip) canWrite() bool { return x.other().canRead() }
func (x tip) noWriter() bool { return x.other().closed() || x.other().shut() }
func (x tip) room() int      { return x.l.capacity - len(x.ring()) }

// ring is the bytes that came and did not go.
func (x tip) ring() string {
	s := ""
	for _, y := range x.l.past {
		switch {
		case y.what == "reset":
			s = ""
		case y.end == x.end && y.what == "came":
			s += y.b
		case y.end == x.end && y.what == "went":
			s = s[len(y.b):]
		}
	}
	return s
}

func (x tip) ready() api.Ready {
	l, o := x.l, x.other()
	return api.Ready{
		Open:   true,
		In:     l.kind == "listen" && len(l.waiting) > 0 || x.canRead() && (x.ring() != "" || x.noWriter() || l.reset()),
		Out:    x.canWrite() && !x.shut() && (o.room() > 0 || o.closed() || l.reset()),
		Hup:    l.kind != "listen" && o.closed(),
		Err:    l.reset(),
		Reads:  x.reads(),
		Writes: x.writes(),
	}
}

func (x tip) reads() uint64 {
	n := x.l.times("wait", 0)
	if x.canRead() {
		n += x.l.times("came", x.end) + x.l.times("reset", 0)
		if x.noWriter() {
			n++
		}
	}
	return uint64(n)
}

func (x tip) writes() uint64 {
	if !x.canWrite() {
		return 0
	}
	o := x.other()
	return uint64(x.l.times("went", o.end) + x.l.times("closed", o.end) + x.l.times("reset", 0))
}

// fill puts into an end's ring what fits.
func (x tip) fill(b string) int {
	n := min(len(b), x.room())
	x.l.add("came", x.end, b[:n])
	return n
}

// drain takes so many bytes out of an end's ring.
func (x tip) drain(n int) string {
	s := x.ring()
	s = s[:min(n, len(s))]
	x.l.add("went", x.end, s)
	return s
}

// free is the smallest free descriptors, or nothing if there are fewer.
func (p *plain) free(need int) []int {
	var l []int
	for fd := range api.MaxFd + 1 {
		if _, is := p.fds[fd]; !is && len(l) < need {
			l = append(l, fd)
		}
	}
	if len(l) < need {
		return nil
	}
	return l
}

// lay makes a wire, with descriptors for the first ends, so many of them.
func (p *plain) lay(kind string, n, most, need int) ([]int, api.Errno) {
	fds := p.free(need)
	switch {
	case n < 1 || n > most:
		return nil, api.ErrArg
	case len(fds) < need || len(p.lines) >= api.MaxWires:
		return nil, api.ErrMany
	}
	l := &line{kind: kind, capacity: n, accepted: need > 0}
	p.lines = append(p.lines, l)
	for i, fd := range fds {
		p.fds[fd] = tip{l, i}
	}
	return fds, api.OK
}

func (p *plain) accept(fd int) (int, int, api.Errno) {
	x, is := p.fds[fd]
	switch {
	case !is:
		return 0, 0, api.ErrFd
	case x.l.kind != "listen":
		return 0, 0, api.ErrKind
	case len(x.l.waiting) == 0:
		return 0, 0, api.ErrAgain
	case p.free(1) == nil:
		return 0, 0, api.ErrMany
	}
	n, wire := p.free(1)[0], x.l.waiting[0]
	x.l.waiting = x.l.waiting[1:]
	p.lines[wire].accepted = true
	p.fds[n] = tip{p.lines[wire], 0}
	return n, wire, api.OK
}

func (p *plain) read(fd, n int) (string, bool, api.Errno) {
	x, is := p.fds[fd]
	switch {
	case !is:
		return "", false, api.ErrFd
	case !x.canRead():
		return "", false, api.ErrKind
	case n < 1:
		return "", false, api.ErrArg
	case x.l.reset():
		return "", false, api.ErrReset
	case x.ring() != "":
		return x.drain(n), false, api.OK
	case x.noWriter():
		return "", true, api.OK
	}
	return "", false, api.ErrAgain
}

func (p *plain) write(fd int, b string) (int, api.Errno) {
	x, is := p.fds[fd]
	switch {
	case !is:
		return 0, api.ErrFd
	case !x.canWrite():
		return 0, api.ErrKind
	case x.l.reset():
		return 0, api.ErrReset
	case x.shut() || x.other().closed():
		return 0, api.ErrPipe
	case b == "":
		return 0, api.OK
	case x.other().room() == 0:
		return 0, api.ErrAgain
	}
	return x.other().fill(b), api.OK
}

func (p *plain) shut(fd int) api.Errno {
	x, is := p.fds[fd]
	switch {
	case !is:
		return api.ErrFd
	case !x.canRead() || !x.canWrite():
		return api.ErrKind
	}
	x.l.add("shut", x.end, "")
	return api.OK
}

func (p *plain) close(fd int) api.Errno {
	x, is := p.fds[fd]
	if !is {
		return api.ErrFd
	}
	delete(p.fds, fd)
	x.l.add("closed", x.end, "")
	for _, wire := range x.l.waiting {
		p.lines[wire].add("closed", 0, "")
	}
	x.l.waiting = nil
	return api.OK
}

// far is the second end of a wire, and whether it is outside.
func (p *plain) far(wire int) (tip, bool) {
	if wire < 0 || wire >= len(p.lines) {
		return tip{}, false
	}
	x := tip{p.lines[wire], 1}
	return x, x.l.kind == "outer" && !x.closed()
}

func (p *plain) put(wire int, b string) (int, api.Errno) {
	x, is := p.far(wire)
	switch {
	case !is:
		return 0, api.ErrWire
	case x.l.reset():
		return 0, api.ErrReset
	case x.shut() || x.other().closed():
		return 0, api.ErrPipe
	}
	return x.other().fill(b), api.OK
}

func (p *plain) take(wire, n int) (string, api.Errno) {
	x, is := p.far(wire)
	switch {
	case !is:
		return "", api.ErrWire
	case n < 0:
		return "", api.ErrArg
	case x.l.reset():
		return "", api.ErrReset
	}
	return x.drain(n), api.OK
}

// peer lets a thing come to pass at the end outside.
func (p *plain) peer(wire int, what string) api.Errno {
	x, is := p.far(wire)
	switch {
	case !is:
		return api.ErrWire
	case what != "reset":
		x.l.add(what, 1, "")
	case !x.l.reset():
		x.l.add(what, 0, "")
	}
	return api.OK
}

func (p *plain) connect(wire, capacity int) (int, api.Errno) {
	if wire < 0 || wire >= len(p.lines) || p.lines[wire].kind != "listen" || (tip{p.lines[wire], 0}).closed() {
		return 0, api.ErrWire
	}
	l := p.lines[wire]
	if len(l.waiting) == l.capacity && capacity >= 1 && capacity <= api.MaxRing {
		return 0, api.ErrAgain
	}
	if _, e := p.lay("outer", capacity, api.MaxRing, 0); e != api.OK {
		return 0, e
	}
	n := len(p.lines) - 1
	l.waiting = append(l.waiting, n)
	l.add("wait", 0, "")
	return n, api.OK
}

// signal does what concerns signals, and then the notice.
func (p *plain) signal(e api.Errno, do func()) api.Errno {
	if e == api.OK {
		do()
	}
	if p.notice.l == nil {
		return e
	}
	if p.pending() == 0 {
		p.notice.drain(p.notice.l.capacity)
	} else if p.notice.ring() == "" {
		p.notice.fill("\x01")
	}
	return e
}

func (p *plain) check(sig int) api.Errno {
	if sig < 1 || sig > api.MaxSig {
		return api.ErrSignal
	}
	return api.OK
}

func (p *plain) handle(sig int, on bool) api.Errno {
	return p.signal(p.check(sig), func() {
		if on {
			p.handled[sig] += 0
		} else {
			delete(p.handled, sig)
		}
	})
}

func (p *plain) raise(sig int) api.Errno {
	return p.signal(p.check(sig), func() {
		if _, is := p.handled[sig]; is {
			p.handled[sig]++
		}
	})
}

func (p *plain) pending() int {
	sum := 0
	for _, n := range p.handled {
		sum += n
	}
	return sum
}

func (p *plain) signals() []api.Count {
	var l []api.Count
	p.signal(api.OK, func() {
		for _, sig := range slices.Sorted(maps.Keys(p.handled)) {
			if n := p.handled[sig]; n > 0 {
				l = append(l, api.Count{Sig: sig, N: n})
				p.handled[sig] = 0
			}
		}
	})
	return l
}

func (p *plain) declare(a, b int) api.Errno {
	x, isX := p.fds[a]
	y, isY := p.fds[b]
	e := api.OK
	if !isX || !isY {
		e = api.ErrFd
	} else if x.l != y.l || x.end == y.end || x.l.kind != "pair" {
		e = api.ErrKind
	}
	return p.signal(e, func() { p.notice = x })
}

func (p *plain) number(l *line) int { return slices.Index(p.lines, l) }

func (p *plain) image() []string {
	lines := []string{fmt.Sprint("now ", p.now)}
	for _, fd := range slices.Sorted(maps.Keys(p.fds)) {
		x := p.fds[fd]
		end := x.end
		if x.l.kind == "listen" {
			end = 2
		}
		lines = append(lines, fmt.Sprintf("fd %d wire %d end %d", fd, p.number(x.l), end))
	}
	for n, l := range p.lines {
		s := fmt.Sprintf("wire %d", n)
		if l.kind == "listen" {
			s += fmt.Sprintf(" listen %d", l.capacity)
			for _, wire := range l.waiting {
				s += fmt.Sprintf(" %d", wire)
			}
		} else {
			s += (tip{l, 0}).image() + (tip{l, 1}).image()
			if l.reset() {
				s += " reset"
			}
		}
		lines = append(lines, s)
	}
	for _, sig := range slices.Sorted(maps.Keys(p.handled)) {
		lines = append(lines, fmt.Sprintf("signal %d %d", sig, p.handled[sig]))
	}
	if p.notice.l != nil {
		lines = append(lines, fmt.Sprintf("notice %d %d", p.number(p.notice.l), p.notice.end))
	}
	return lines
}

func (x tip) image() string {
	s := " in"
	switch {
	case x.closed():
		s = " closed"
	case x.end == 0 && !x.l.accepted:
		s = " none"
	case x.end == 1 && x.l.kind == "outer":
		s = " out"
	}
	if x.shut() {
		s += " shut"
	}
	if !x.canRead() {
		return s + " -"
	}
	return s + fmt.Sprintf(" %x/%d", x.ring(), x.l.capacity)
}

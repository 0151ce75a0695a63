package world

import (
	"strconv"

	"roundhouse/api"
)

const digits = "0123456789abcdef"

// words say what an end is.
var words = [...]string{nobodys: "none", inside: "in", outside: "out", closed: "closed"}

// Image is lines that say all on which later calls depend, but for Reads and Writes.
func (w *World) Image() []string {
	if !w.made() {
		return nil
	}
	k := w.k
	l := []string{"now " + strconv.FormatUint(k.now, 10)}
	for fd := range k.numbers(true) {
		l = append(l, "fd"+number(fd)+k.fds[fd].place())
	}
	for _, x := range k.wires {
		l = append(l, "wire"+number(x.number)+x.text())
	}
	for _, sig := range k.signals.List() {
		l = append(l, "signal"+number(sig)+number(k.signals.Count(sig)))
	}
	if k.notice != nil {
		l = append(l, "notice"+number(k.notice.wire.number)+number(k.notice.index))
	}
	return l
}

// place is the words that say of which wire the end is, and which one.
func (p *end) place() string {
	index := p.index
	if p.wire.backlog > 0 {
		index = 2
	}
	return " wire" + number(p.wire.number) + " end" + number(index)
}

// text is the words that say what a wire is.
func (x *wire) text() string {
	if x.backlog > 0 {
		s := " listen" + number(x.backlog)
		for _, y := range x.waiting {
			s += number(y.number)
		}
		return s
	}
	s := x.ends[0].text() + x.ends[1].text()
	if x.reset {
		s += " reset"
	}
	return s
}

// text is the words that say what an end is, and what is in its ring.
func (p *end) text() string {
	s := " " + words[p.is]
	if p.shut {
		s += " shut"
	}
	if !p.canRead() {
		return s + " -"
	}
	b := p.ring.Look(api.MaxRing)
	return s + " " + hex(b) + "/" + strconv.Itoa(len(b)+p.ring.Room())
}

// number is a word that is a number.
func number(n int) string {
	return " " + strconv.Itoa(n)
}

// hex is two digits for each byte.
func hex(b []byte) string {
	var l []byte
	for _, x := range b {
		l = append(l, digits[x>>4], digits[x&15])
	}
	return string(l)
}

// Package fdset is layer 1: sets of descriptors, as select takes them; see shared/doc/01-fdset.md.
package fdset

import (
	"iter"
	"math/bits"

	"roundhouse/api"
)

// Set has descriptors below api.SetSize: descriptor n is bit n modulo 32 of word n / 32.
type Set [2]uint32

// wordBits is how many descriptors one word of a Set holds.
const wordBits = 32

// Of is the set of some descriptors, or ErrSet if one of them cannot be in a set.
func Of(l []int) (Set, api.Errno) {
	var s Set
	for _, fd := range l {
		if !fits(fd) {
			return Set{}, api.ErrSet
		}
		s.put(fd)
	}
	return s, api.OK
}

// With is a set and one descriptor more, or ErrSet if that one cannot be in a set.
func (s Set) With(fd int) (Set, api.Errno) {
	if !fits(fd) {
		return Set{}, api.ErrSet
	}
	s.put(fd)
	return s, api.OK
}

// Without is a set without one descriptor.
func (s Set) Without(fd int) Set {
	if fits(fd) {
		s[fd/wordBits] &^= bit(fd)
	}
	return s
}

// Has says whether a descriptor is in the set.
func (s Set) Has(fd int) bool {
	return fits(fd) && s[fd/wordBits]&bit(fd) != 0
}

// Len is how many descriptors are in the set.
func (s Set) Len() int {
	many := 0
	for _, word := range s {
		many += bits.OnesCount32(word)
	}
	return many
}

// Top is the greatest descriptor, or -1 if there is none.
func (s Set) Top() int {
	top := -1
	for i, word := range s {
		if word != 0 {
			top = i*wordBits + bits.Len32(word) - 1
		}
	}
	return top
}

// Next is the least descriptor that is at least from, and whether there is one.
func (s Set) Next(from int) (int, bool) {
	for fd := range s.members() {
		if fd >= from {
			return fd, true
		}
	}
	return 0, false
}

// All is every descriptor of the set, in ascending order.
func (s Set) All() []int {
	l := make([]int, 0, s.Len())
	for fd := range s.members() {
		l = append(l, fd)
	}
	return l
}

// Below is the set of the descriptors below n.
func (s Set) Below(n int) Set {
	// Cut n first: the least int less a word's width would wrap round.
	n = max(n, 0)
	for i := range s {
		s[i] &= 1<<max(n-i*wordBits, 0) - 1
	}
	return s
}

// And is the set of the descriptors that are in both sets.
func (s Set) And(t Set) Set {
	for i := range s {
		s[i] &= t[i]
	}
	return s
}

// Or is the set of the descriptors that are in either set.
func (s Set) Or(t Set) Set {
	for i := range s {
		s[i] |= t[i]
	}
	return s
}

// Less is the set of the descriptors that are not in t.
func (s Set) Less(t Set) Set {
	for i := range s {
		s[i] &^= t[i]
	}
	return s
}

// members yields the descriptors of the set in ascending order.
func (s Set) members() iter.Seq[int] {
	return func(yield func(int) bool) {
		for i, word := range s {
			for ; word != 0; word &= word - 1 {
				if !yield(i*wordBits + bits.TrailingZeros32(word)) {
					return
				}
			}
		}
	}
}

// put adds a descriptor that fits.
func (s *Set) put(fd int) {
	s[fd/wordBits] |= bit(fd)
}

func fits(fd int) bool {
	return fd >= 0 && fd < api.SetSize
}

func bit(fd int) uint32 {
	return 1 << (fd % wordBits)
}

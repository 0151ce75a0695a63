package flag

import (
	"iter"
	"strings"

	"roundhouse/api"
)

// noWord is the text of the mask 0, which has no word to write.
const noWord = "none"

// The bits of an event's flags by number, from the lowest.
const (
	timeoutBit = iota
	readBit
	writeBit
	signalBit
	persistBit
	edgeBit
	flagBits // how many there are
)

// The bits of a driver's features by number, from the lowest.
const (
	featEdgeBit = iota
	featBigBit
	featSignalsBit
	featChangesBit
	featureBits // how many there are
)

const (
	allFlags    = 1<<flagBits - 1
	allFeatures = 1<<featureBits - 1
)

var flagWords = [flagBits]string{
	timeoutBit: "timeout",
	readBit:    "read",
	writeBit:   "write",
	signalBit:  "signal",
	persistBit: "persist",
	edgeBit:    "edge",
}

var featureWords = [featureBits]string{
	featEdgeBit:    "edge",
	featBigBit:     "big",
	featSignalsBit: "signals",
	featChangesBit: "changes",
}

// flags yields the flags of an event with their words, the lowest bit first.
func flags() iter.Seq2[int, string] {
	return func(yield func(int, string) bool) {
		for n, word := range flagWords {
			if !yield(1<<n, word) {
				return
			}
		}
	}
}

// features yields the features of drivers with their words, the lowest bit first.
func features() iter.Seq2[int, string] {
	return func(yield func(int, string) bool) {
		for n, word := range featureWords {
			if !yield(1<<n, word) {
				return
			}
		}
	}
}

// text is a mask's words, or ErrFlag if it has a bit without one.
func text(mask int, words iter.Seq2[int, string]) (string, api.Errno) {
	if mask == 0 {
		return noWord, api.OK
	}
	var said []string
bits:
	for bit, word := range words {
		switch {
		case mask == 0:
			break bits
		case mask&bit != 0:
			said = append(said, word)
			mask &^= bit
		}
	}
	if mask != 0 {
		return "", api.ErrFlag
	}
	return strings.Join(said, "+"), api.OK
}

// parse is the mask that text writes as s, or ErrFlag if there is none.
func parse(s string, words iter.Seq2[int, string]) (int, api.Errno) {
	if s == noWord {
		return 0, api.OK
	}
	mask := 0
	head, rest, more := strings.Cut(s, "+")
	// A word out of order, or there twice, is never met again: text writes the lowest bit first.
	for bit, word := range words {
		if word != head {
			continue
		}
		mask |= bit
		if !more {
			return mask, api.OK
		}
		head, rest, more = strings.Cut(rest, "+")
	}
	return 0, api.ErrFlag
}

package moves

import (
	"strconv"
	"strings"

	"roundhouse/api"
)

// What the next word of a line is. The line may end where nextIntr, nextOrder or nextMove is next.
const (
	nextStep    = iota // the word that begins the line
	nextTicks          // the step's
	nextNumbers        // the order's
	nextIntr           // the word intr, or one that may be behind it
	nextOrder          // the word order, or one that may be behind it
	nextMove           // the word of a move
	nextWire           // the move's
	nextN              // the move's
	nextData           // the move's
	noNext             // none: the line is wrong
)

// reader reads a line word by word.
type reader struct {
	next int
	step api.Step
	move api.Move // whose fields are being read
}

// Parse is the steps of a text, or ErrLine and the number of the first line that is wrong.
func Parse(s string) (l []api.Step, line int, e api.Errno) {
	for text := range strings.Lines(s) {
		line++
		text, ended := strings.CutSuffix(text, "\n")
		x, is := parseStep(text)
		if !is || !ended || line > api.MaxSteps {
			return nil, line, api.ErrLine
		}
		l = append(l, x)
	}
	return l, 0, api.OK
}

// parseStep reads a step as appendStep writes it.
func parseStep(line string) (api.Step, bool) {
	var r reader
words:
	for word := range strings.SplitSeq(line, " ") {
		switch r.next {
		case nextStep:
			r.next = r.start(word)
		case nextTicks:
			r.next = r.ticks(word)
		case nextNumbers:
			r.next = r.order(word)
		case nextWire, nextN, nextData:
			r.next = r.field(word)
		case noNext:
			break words
		default:
			r.next = r.part(word)
		}
	}
	if r.next < nextIntr || r.next > nextMove || Check(r.step) != api.OK {
		return api.Step{}, false
	}
	return r.step, true
}

func (r *reader) start(word string) int {
	if word != stepWord {
		return noNext
	}
	return nextTicks
}

func (r *reader) ticks(word string) int {
	n, is := parseNumber(word, 64)
	if !is {
		return noNext
	}
	r.step.Ticks = n
	return nextIntr
}

// part reads a word that begins a part of the step.
func (r *reader) part(word string) int {
	switch {
	case word == intrWord && r.next == nextIntr:
		r.step.Intr = true
		return nextOrder
	case word == orderWord && r.next != nextMove:
		return nextNumbers
	}
	for op, known := range moveWords {
		if fields(op) != 0 && word == known {
			r.move = api.Move{Op: op}
			return r.from(nextWire)
		}
	}
	return noNext
}

func (r *reader) order(word string) int {
	for text := range strings.SplitSeq(word, ",") {
		n, is := parseInt(text)
		if !is || len(r.step.Order) == api.MaxMoves {
			return noNext // at the limit already here, so that a long line takes little room
		}
		r.step.Order = append(r.step.Order, n)
	}
	return nextMove
}

// field reads a field of the move.
func (r *reader) field(word string) int {
	var is bool
	switch r.next {
	case nextWire:
		r.move.Wire, is = parseInt(word)
	case nextN:
		r.move.N, is = parseInt(word)
	case nextData:
		r.move.Data, is = parseData(word)
	}
	if !is {
		return noNext
	}
	return r.from(r.next + 1)
}

// from is the first field of the move that is not before next; if there is none, the move ends.
func (r *reader) from(next int) int {
	has := fields(r.move.Op)
	switch {
	case next <= nextWire && has&wireField != 0:
		return nextWire
	case next <= nextN && has&numberField != 0:
		return nextN
	case next <= nextData && has&dataField != 0:
		return nextData
	case len(r.step.Moves) == api.MaxMoves:
		return noNext // as in order
	}
	r.step.Moves = append(r.step.Moves, r.move)
	return nextMove
}

// parseInt reads a number that is not negative, and that an int can be.
func parseInt(text string) (int, bool) {
	n, is := parseNumber(text, strconv.IntSize-1)
	return int(n), is
}

// parseNumber reads decimal digits without leading zeros, whose number has at most so many bits.
func parseNumber(text string, bits int) (uint64, bool) {
	n, err := strconv.ParseUint(text, 10, bits)
	if err != nil || len(text) > 1 && text[0] == '0' {
		return 0, false
	}
	return n, true
}

// parseData reads the bytes of a move, two digits for each.
func parseData(text string) ([]byte, bool) {
	if len(text)%2 != 0 || len(text) > 2*api.MaxData {
		return nil, false
	}
	var b []byte
	for i := 0; i < len(text); i += 2 {
		high, low := strings.IndexByte(digits, text[i]), strings.IndexByte(digits, text[i+1])
		if high < 0 || low < 0 {
			return nil, false
		}
		b = append(b, byte(high<<4|low))
	}
	return b, true
}

package moves

import (
	"strconv"

	"roundhouse/api"
)

// The words of a step; those of moves are in moveWords.
const (
	stepWord  = "step"
	intrWord  = "intr"
	orderWord = "order"
)

const digits = "0123456789abcdef"

// moveWords is the word of each move, by its Op.
var moveWords = [...]string{
	api.MovePut:     "put",
	api.MoveTake:    "take",
	api.MoveShut:    "shut",
	api.MoveClose:   "close",
	api.MoveReset:   "reset",
	api.MoveConnect: "connect",
	api.MoveRaise:   "raise",
}

// Text is the text of steps, a line for each, or ErrStep unless they are those of a script.
func Text(l []api.Step) (string, api.Errno) {
	if e := checkAll(l); e != api.OK {
		return "", e
	}
	var out []byte
	for _, x := range l {
		out = appendStep(out, x)
	}
	return string(out), api.OK
}

func appendStep(out []byte, x api.Step) []byte {
	out = append(out, stepWord...)
	out = append(out, ' ')
	out = strconv.AppendUint(out, x.Ticks, 10)
	if x.Intr {
		out = appendWord(out, intrWord)
	}
	if len(x.Order) > 0 {
		out = appendWord(out, orderWord)
		out = appendOrder(out, x.Order)
	}
	for _, m := range x.Moves {
		out = appendMove(out, m)
	}
	return append(out, '\n')
}

func appendOrder(out []byte, order []int) []byte {
	mark := byte(' ')
	for _, n := range order {
		out = append(out, mark)
		out = strconv.AppendInt(out, int64(n), 10)
		mark = ','
	}
	return out
}

func appendMove(out []byte, m api.Move) []byte {
	has := fields(m.Op)
	out = appendWord(out, moveWords[m.Op])
	if has&wireField != 0 {
		out = appendWord(out, strconv.Itoa(m.Wire))
	}
	if has&numberField != 0 {
		out = appendWord(out, strconv.Itoa(m.N))
	}
	if has&dataField != 0 {
		out = append(out, ' ')
		for _, b := range m.Data {
			out = append(out, digits[b>>4], digits[b&15])
		}
	}
	return out
}

func appendWord(out []byte, word string) []byte {
	out = append(out, ' ')
	return append(out, word...)
}

package sdo

import "tramway/api"

// A frame's byte 0, and where its parts are.
const (
	commandShift = 5
	turnBit      = 0x10
	indexAt      = 1
	subAt        = 3
	dataAt       = 4

	abortByte = 0x80
)

// command is a frame's command.
func command(q [8]byte) byte { return q[0] >> commandShift }

// turn is the bit of a segment's turn.
func turn(q [8]byte) byte { return q[0] & turnBit }

// spot is a place in a dictionary.
type spot struct {
	index uint16
	sub   uint8
}

// spotOf is the place that a frame names.
func spotOf(q [8]byte) spot {
	return spot{uint16(q[indexAt]) | uint16(q[indexAt+1])<<8, q[subAt]}
}

// answer is a frame of a byte 0 and the place.
func (p spot) answer(first byte) [8]byte {
	return [8]byte{first, byte(p.index), byte(p.index >> 8), p.sub}
}

// counted is such a frame with a number behind the place.
func (p spot) counted(first byte, n uint32) [8]byte {
	a := p.answer(first)
	for i := dataAt; i < len(a); i++ {
		a[i] = byte(n)
		n >>= 8
	}
	return a
}

// number is what stands behind the place in such a frame.
func number(q [8]byte) uint32 {
	var n uint32
	for i := len(q) - 1; i >= dataAt; i-- {
		n = n<<8 | uint32(q[i])
	}
	return n
}

// failure is what the work on a frame gives up with.
type failure struct {
	spot
	code uint32
}

// frame is the abort that tells it.
func (f failure) frame() [8]byte { return Abort(f.index, f.sub, f.code) }

// pass gives up with a code at the place, unless it is Fine.
func (p spot) pass(code uint32) {
	if code != api.Fine {
		panic(failure{p, code})
	}
}

// Abort is a frame that gives up.
func Abort(index uint16, sub uint8, code uint32) [8]byte {
	return spot{index, sub}.counted(abortByte, code)
}

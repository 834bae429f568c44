package client

// The commands of answers; those above drop are none.
const (
	told = iota
	taken
	begun
	written
	drop
)

// A frame's byte 0, and where its parts are.
const (
	commandShift = 5
	turnBit      = 0x10
	lastBit      = 1 // of a segment: none follows
	restShift    = 1
	restMask     = 7
	segBytes     = 7 // of a segment, at most

	sizedBit   = 1 // of a first frame: it is said how many bytes there are
	atOnceBit  = 2 // of a first frame: they are in it
	spareShift = 2
	spareMask  = 3
	dataBytes  = 4 // in a first frame, at most

	indexAt = 1
	subAt   = 3
	dataAt  = 4
)

// command is a frame's command.
func command(a [8]byte) byte { return a[0] >> commandShift }

// turn is the bit of a segment's turn.
func turn(a [8]byte) byte { return a[0] & turnBit }

// spot is a place in a dictionary.
type spot struct {
	index uint16
	sub   uint8
}

// spotOf is the place that a frame names.
func spotOf(a [8]byte) spot {
	return spot{uint16(a[indexAt]) | uint16(a[indexAt+1])<<8, a[subAt]}
}

// frame is one of a byte 0, the place, and what stands behind it.
func (p spot) frame(first byte, behind ...byte) [8]byte {
	q := [8]byte{first, byte(p.index), byte(p.index >> 8), p.sub}
	copy(q[dataAt:], behind)
	return q
}

// number is what stands behind the place in a frame, as one.
func number(a [8]byte) uint32 {
	var n uint32
	for i := len(a) - 1; i >= dataAt; i-- {
		n = n<<8 | uint32(a[i])
	}
	return n
}

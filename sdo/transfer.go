package sdo

import "tramway/api"

const (
	lastBit   = 1 // of a segment: none follows
	restShift = 1
	restMask  = 7
	segBytes  = 7 // of a segment, at most
)

// transfer is what goes on in segments: at which spot, and as which of the two.
type transfer struct {
	spot
	doing int
	turn  byte   // of the next segment: its bit
	bytes []byte // of a write those that came, of a read those that are still to be told

	said bool // how many a write will be
	size uint32
}

// due is the transfer that a segment goes on with, if it is such a one, and it's that segment's turn. It is taken out of the server, so that whatever ends it ends it there, too.
func (s *Server) due(doing int, q [8]byte) transfer {
	if s.doing != doing {
		spot{}.pass(api.NoCommand)
	}
	x := s.transfer
	s.Reset()
	if turn(q) != x.turn {
		x.pass(api.NoToggle)
	}
	return x
}

// goOn puts a transfer back that waits for its next segment.
func (s *Server) goOn(x transfer) {
	x.turn ^= turnBit
	s.transfer = x
}

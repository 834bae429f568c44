package sdo

const (
	tellByte = 0x40 | sizedBit
	hereByte = tellByte | atOnceBit
)

// beginRead is the answer to a read's first frame.
func (s *Server) beginRead(q [8]byte) [8]byte {
	s.Reset()
	at := spotOf(q)
	b, code := s.dict.Read(at.index, at.sub)
	at.pass(code)
	if len(b) == 0 || len(b) > dataBytes {
		// No bytes have no room in a first frame: it has one at least.
		s.transfer = transfer{spot: at, doing: isRead, bytes: b}
		return at.counted(tellByte, uint32(len(b)))
	}
	a := at.answer(hereByte | byte(dataBytes-len(b))<<spareShift)
	copy(a[dataAt:], b)
	return a
}

// tell is the answer to who asks for the next segment of a read.
func (s *Server) tell(q [8]byte) [8]byte {
	x := s.due(isRead, q)
	var a [8]byte
	n := copy(a[1:], x.bytes)
	a[0] = turn(q) | byte(segBytes-n)<<restShift
	x.bytes = x.bytes[n:]
	if len(x.bytes) == 0 {
		a[0] |= lastBit
	} else {
		s.goOn(x)
	}
	return a
}

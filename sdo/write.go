package sdo

import (
	"tramway/api"
	"tramway/types"
)

const (
	sizedBit   = 1 // of a first frame: it is said how many bytes there are
	atOnceBit  = 2 // of a first frame: they are in it
	spareShift = 2
	spareMask  = 3
	dataBytes  = 4 // in a first frame, at most

	writtenByte = 0x60
	takenByte   = 0x20
)

// beginWrite is the answer to a write's first frame.
func (s *Server) beginWrite(q [8]byte) [8]byte {
	s.Reset()
	at := spotOf(q)
	if q[0]&atOnceBit != 0 {
		at.pass(s.dict.Write(at.index, at.sub, q[dataAt:dataAt+s.count(q)]))
	} else {
		s.transfer = s.awaited(q)
	}
	return at.answer(writtenByte)
}

// count is how many bytes a first frame has that has them all. If it does not say it, the entry does, as far as it can.
func (s *Server) count(q [8]byte) int {
	if q[0]&sizedBit != 0 {
		return dataBytes - int(q[0]>>spareShift&spareMask)
	}
	at := spotOf(q)
	e, _ := s.dict.Entry(at.index, at.sub)
	if n, is := types.Size(e.Default.Type); is && n <= dataBytes {
		return n
	}
	return dataBytes
}

// awaited is the write in segments that a first frame begins.
func (s *Server) awaited(q [8]byte) transfer {
	x := transfer{spot: spotOf(q), doing: isWritten}
	x.pass(s.leave(x.spot))
	if q[0]&sizedBit != 0 {
		x.said, x.size = true, number(q)
	}
	if x.size > api.MaxBytes {
		x.pass(api.NoMemory)
	}
	return x
}

// leave is the code by which an entry refuses to be written to, whatever the bytes.
func (s *Server) leave(at spot) uint32 {
	switch code := s.dict.May(at.index, at.sub, nil); code {
	case api.NoObject, api.NoSub, api.NoWrite:
		return code
	}
	return api.Fine
}

// take is the answer to a segment of a write.
func (s *Server) take(q [8]byte) [8]byte {
	x := s.due(isWritten, q)
	x.bytes = append(x.bytes, q[1:1+segBytes-int(q[0]>>restShift&restMask)]...)
	if len(x.bytes) > api.MaxBytes {
		x.pass(api.NoMemory)
	}
	if q[0]&lastBit != 0 {
		s.finish(x)
	} else {
		s.goOn(x)
	}
	return [8]byte{takenByte | turn(q)}
}

// finish writes what came in segments.
func (s *Server) finish(x transfer) {
	if x.said && int(x.size) != len(x.bytes) {
		x.pass(api.BadLength)
	}
	x.pass(s.dict.Write(x.index, x.sub, x.bytes))
}

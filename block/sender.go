package block

import (
	"slices"

	"tramway/api"
	"tramway/bits"
)

// Sender sends bytes.
type Sender struct {
	step  int
	bytes []byte // all of them: the sum at the end is of these
	came  int    // segments, from the first one on
	sent  int    // segments behind these: the block that is answered next
	code  uint32
}

// NewSender is a sender of some bytes.
func NewSender(b []byte) (*Sender, api.Errno) {
	if len(b) > api.MaxBytes {
		return nil, api.ErrLong
	}
	return &Sender{bytes: slices.Clone(b)}, api.OK
}

// Begin is the first block.
func (s *Sender) Begin(size int) ([][8]byte, api.Errno) {
	switch {
	case s.step != fresh:
		return nil, api.ErrState
	case !canBe(size):
		return nil, api.ErrArg
	}
	s.step = inBlocks
	return s.block(size), api.OK
}

// Feed takes an answer: the next block, or the end.
func (s *Sender) Feed(a [8]byte) [][8]byte {
	switch {
	case s.step == fresh || s.step == over:
		return nil
	case isAbort(a):
		return s.end(codeOf(a))
	case s.step == inBlocks:
		return s.answered(a)
	case a[0] != takenByte:
		return s.giveUp(api.NoCommand)
	}
	return s.end(api.Fine)
}

// Done tells whether it is, and its code.
func (s *Sender) Done() (uint32, bool) { return s.code, s.step == over }

// answered takes the answer to a block.
func (s *Sender) answered(a [8]byte) [][8]byte {
	came, size := int(a[cameAt]), int(a[sizeAt])
	switch {
	case a[0] != blockByte:
		return s.giveUp(api.NoCommand)
	case came > s.sent:
		return s.giveUp(api.BadSeq)
	case !canBe(size):
		return s.giveUp(api.BadBlock)
	}
	s.came += came
	if s.came < s.segments() {
		return s.block(size)
	}
	s.step = atEnd
	return [][8]byte{s.ending()}
}

// block is the next one, of at most so many segments.
func (s *Sender) block(size int) [][8]byte {
	s.sent = min(size, s.segments()-s.came)
	l := make([][8]byte, s.sent)
	for i := range l {
		l[i] = s.segment(i)
	}
	return l
}

// segment is the frame of one of a block, counted from 0.
func (s *Sender) segment(i int) [8]byte {
	f := [8]byte{byte(i + 1)}
	at := s.came + i
	if at == s.segments()-1 {
		f[0] |= lastBit
	}
	copy(f[1:], s.bytes[at*segBytes:])
	return f
}

// segments is how many there are: one even of no bytes.
func (s *Sender) segments() int { return max(1, (len(s.bytes)+segBytes-1)/segBytes) }

// ending is the frame of the end.
func (s *Sender) ending() [8]byte {
	spare := s.segments()*segBytes - len(s.bytes)
	sum := bits.CRC16(s.bytes)
	return [8]byte{endByte | byte(spare)<<spareShift, byte(sum), byte(sum >> 8)}
}

// end is when there is nothing more to send.
func (s *Sender) end(code uint32) [][8]byte {
	*s = Sender{step: over, code: code}
	return nil
}

// giveUp ends with a frame that tells it.
func (s *Sender) giveUp(code uint32) [][8]byte {
	s.end(code)
	return [][8]byte{abort(code)}
}

package block

import (
	"slices"

	"tramway/api"
	"tramway/bits"
)

// Receiver takes bytes.
type Receiver struct {
	step  int
	size  int
	bytes []byte // of the segments that were taken; done: what was sent
	came  int    // segments of this block
	code  uint32
}

// NewReceiver is a receiver that takes blocks of a size.
func NewReceiver(size int) (*Receiver, api.Errno) {
	if !canBe(size) {
		return nil, api.ErrArg
	}
	return &Receiver{step: inBlocks, size: size}, api.OK
}

// Feed takes a frame: the answer, if there is one.
func (r *Receiver) Feed(f [8]byte) ([8]byte, bool) {
	switch {
	case r.step == inBlocks:
		return r.take(f)
	case r.step == atEnd && isAbort(f):
		r.end(codeOf(f), nil)
	case r.step == atEnd && isEnd(f):
		return r.finish(f)
	}
	return [8]byte{}, false
}

// Ask answers when time ran out. Behind an answer to a block segments are counted anew; behind the last one of all none follows, and the answer stays.
func (r *Receiver) Ask() ([8]byte, bool) {
	if r.step == over {
		return [8]byte{}, false
	}
	a := [8]byte{blockByte, byte(r.came), byte(r.size)}
	if r.step == inBlocks {
		r.came = 0
	}
	return a, true
}

// Done is what came, and its code, if it is done.
func (r *Receiver) Done() ([]byte, uint32, bool) {
	if r.step != over {
		return nil, api.Fine, false
	}
	return slices.Clone(r.bytes), r.code, true
}

// take takes a segment, if it is the next one. An abort can't be told from a segment here: it is one of number 0, which is never the next.
func (r *Receiver) take(f [8]byte) ([8]byte, bool) {
	if int(f[0]&^lastBit) != r.came+1 {
		return [8]byte{}, false
	}
	r.bytes = append(r.bytes, f[1:]...)
	r.came++
	if len(r.bytes) > api.MaxBytes+segBytes {
		return r.giveUp(api.NoMemory)
	}
	if f[0]&lastBit != 0 {
		r.step = atEnd
	}
	if r.step == atEnd || r.came == r.size {
		return r.Ask()
	}
	return [8]byte{}, false
}

// finish takes the end. It says at most seven bytes as filled up, and one segment was taken at least: there are always so many.
func (r *Receiver) finish(f [8]byte) ([8]byte, bool) {
	spare := int(f[0] >> spareShift & spareMask)
	sum := uint16(f[sumAt]) | uint16(f[sumAt+1])<<8
	b := r.bytes[:len(r.bytes)-spare]
	if len(b) > api.MaxBytes || bits.CRC16(b) != sum {
		return r.giveUp(api.BadCRC)
	}
	r.end(api.Fine, b)
	return [8]byte{takenByte}, true
}

// end is when nothing more is taken.
func (r *Receiver) end(code uint32, b []byte) { *r = Receiver{step: over, bytes: b, code: code} }

// giveUp ends with a frame that tells it.
func (r *Receiver) giveUp(code uint32) ([8]byte, bool) {
	r.end(code, nil)
	return abort(code), true
}

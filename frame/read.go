package frame

import (
	"strings"

	"tramway/api"
	"tramway/bits"
)

// fullRow is how many bits of one level may follow each other within a body.
const fullRow = 5

// fault is what a reader gives up with.
type fault struct {
	place int
	err   api.Errno
}

// reader goes through the bits of a text from the left. It gives up by panic, as a fault may lie at any bit, however deep the call that reads it.
type reader struct {
	text  string
	place int // of the next bit

	level byte // of the row that the body's last bits are
	row   int

	seen strings.Builder // the body as far as it was read, unstuffed: what its sum is taken of
}

// next is the next bit as it stands on the wire.
func (r *reader) next() byte {
	if r.place == len(r.text) {
		panic(fault{r.place, api.ErrShort})
	}
	level := r.text[r.place]
	r.place++
	return level
}

// bit is the next bit of the body. What is put in behind a full row is read along with it, as it is part of the body behind the last row, too.
func (r *reader) bit() byte {
	level := r.next()
	if level != r.level {
		r.row = 0
	}
	r.level = level
	r.row++
	if r.row == fullRow {
		r.skip()
	}
	r.seen.WriteByte(level)
	return level
}

// skip leaves out a bit that was put in; it begins the next row.
func (r *reader) skip() {
	place := r.place
	put := r.next()
	if put == r.level {
		panic(fault{place, api.ErrStuff})
	}
	r.level = put
	r.row = 1
}

// mark tells whether the next bit of the body is recessive.
func (r *reader) mark() bool { return r.bit() == recessive }

// number is the number of the next bits of the body.
func (r *reader) number(width int) uint32 {
	var n uint32
	for range width {
		n = n<<1 | uint32(r.bit()-dominant)
	}
	return n
}

// fixed reads a bit behind the body that must be of a level.
func (r *reader) fixed(level byte, err api.Errno) {
	place := r.place
	if r.next() != level {
		panic(fault{place, err})
	}
}

// field reads an arbitration field and the reserved bits behind it. Whether the frame is extended is told within it, so the bit before that is a base frame's remote mark, or else of no meaning.
func (r *reader) field() api.Frame {
	var f api.Frame
	f.ID = r.number(highBits)
	f.Remote = r.mark()
	f.Extended = r.mark()
	if f.Extended {
		f.ID = f.ID<<lowBits | r.number(lowBits)
		f.Remote = r.mark()
		r.bit()
	}
	r.bit()
	return f
}

// body reads a frame's body.
func (r *reader) body() api.Frame {
	if r.mark() {
		panic(fault{0, api.ErrFixed})
	}
	f := r.field()
	f.Len = int(r.number(lenBits))
	for i := range bytesOf(f) {
		f.Data[i] = byte(r.number(byteBits))
	}
	sum, _ := bits.CRC(r.seen.String())
	if r.number(sumBits) != uint32(sum) {
		panic(fault{r.place, api.ErrCRC})
	}
	return f
}

// end reads what follows the body.
func (r *reader) end() {
	r.fixed(recessive, api.ErrFixed)
	r.fixed(dominant, api.ErrAck)
	for range len(endOnes) {
		r.fixed(recessive, api.ErrFixed)
	}
}

// Decode is the frame of bits, and how many of them it has; or the place of the first fault.
func Decode(s string) (f api.Frame, n int, err api.Errno) {
	if err := look(s); err != api.OK {
		return api.Frame{}, 0, err
	}
	defer func() {
		if found, ok := recover().(fault); ok {
			f, n, err = api.Frame{}, found.place, found.err
		}
	}()
	r := reader{text: s}
	f = r.body()
	r.end()
	return f, r.place, api.OK
}

// look tells a text's error. The length goes first, whatever its bytes are.
func look(s string) api.Errno {
	if len(s) > api.MaxBits {
		return api.ErrLong
	}
	if !bits.Valid(s) {
		return api.ErrForm
	}
	return api.OK
}

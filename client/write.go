package client

import (
	"slices"

	"tramway/api"
)

const (
	writeByte  = 0x20 | sizedBit
	atOnceByte = writeByte | atOnceBit
)

// Write begins to write bytes: the first frame.
func (c *Client) Write(index uint16, sub uint8, b []byte) ([8]byte, api.Errno) {
	at, n := spot{index, sub}, len(b)
	switch {
	case c.Busy():
		return [8]byte{}, api.ErrState
	case n > api.MaxBytes:
		return [8]byte{}, api.ErrLong
	case n == 0 || n > dataBytes:
		// No bytes have no room in a first frame: it has one at least.
		c.begin(task{spot: at, waits: writeBegun, bytes: slices.Clone(b)})
		return at.frame(writeByte, byte(n), byte(n>>8), byte(n>>16), byte(n>>24)), api.OK
	}
	c.begin(task{spot: at, waits: allWritten})
	return at.frame(atOnceByte|byte(dataBytes-n)<<spareShift, b...), api.OK
}

// sendNext sends the segment behind one that was taken, unless it was the last one.
func (c *Client) sendNext() ([8]byte, bool) {
	if len(c.bytes) == 0 {
		return c.end(api.Fine, nil)
	}
	return c.send(c.turn ^ turnBit)
}

// send is a segment of that turn, with the next bytes.
func (c *Client) send(bit byte) ([8]byte, bool) {
	var q [8]byte
	n := copy(q[1:], c.bytes)
	c.waits, c.turn, c.bytes = segmentTaken, bit, c.bytes[n:]
	q[0] = bit | byte(segBytes-n)<<restShift
	if len(c.bytes) == 0 {
		q[0] |= lastBit
	}
	return q, true
}

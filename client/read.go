package client

import (
	"slices"

	"tramway/api"
)

const (
	readByte = 0x40
	nextByte = 0x60
)

// Read begins to read bytes: the first frame.
func (c *Client) Read(index uint16, sub uint8) ([8]byte, api.Errno) {
	if c.Busy() {
		return [8]byte{}, api.ErrState
	}
	at := spot{index, sub}
	c.begin(task{spot: at, waits: readBegun})
	return at.frame(readByte), api.OK
}

// open takes a read's first answer: the bytes themselves, or that they come in segments.
func (c *Client) open(a [8]byte) ([8]byte, bool) {
	sized := a[0]&sizedBit != 0
	if a[0]&atOnceBit != 0 {
		n := dataBytes
		if sized {
			n -= int(a[0] >> spareShift & spareMask)
		}
		return c.end(api.Fine, slices.Clone(a[dataAt:dataAt+n]))
	}
	if sized {
		c.said, c.size = true, number(a)
	}
	if c.size > api.MaxBytes {
		return c.giveUp(api.NoMemory)
	}
	return c.ask(0)
}

// take takes a segment.
func (c *Client) take(a [8]byte) ([8]byte, bool) {
	n := segBytes - int(a[0]>>restShift&restMask)
	c.bytes = append(c.bytes, a[1:1+n]...)
	switch {
	case len(c.bytes) > api.MaxBytes:
		return c.giveUp(api.NoMemory)
	case a[0]&lastBit == 0:
		return c.ask(c.turn ^ turnBit)
	case c.said && int(c.size) != len(c.bytes):
		return c.giveUp(api.BadLength)
	}
	return c.end(api.Fine, c.bytes)
}

// ask asks for the segment of that turn.
func (c *Client) ask(bit byte) ([8]byte, bool) {
	c.waits, c.turn = segmentTold, bit
	return [8]byte{nextByte | bit}, true
}

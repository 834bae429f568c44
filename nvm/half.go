package nvm

import (
	"math"
	"slices"

	"tramway/bits"
)

const (
	halfCount = 2

	byteBits = 8

	// In a head stand its counter, and behind it how many bytes are kept and the sum.
	countAt = 2
	sumAt   = 6
)

// half is what one of a chip's halves holds: its counter is 0, if that is nothing.
type half struct {
	first   int // its head's page
	counter uint16
	kept    []byte
}

// halfPages is how many pages a half has: of an odd number the last one is in neither.
func halfPages(c *Chip) int { return c.Pages() / halfCount }

// halvesOf is a chip's halves, as they are now.
func halvesOf(c *Chip) [halfCount]half {
	return [halfCount]half{halfAt(c, 0), halfAt(c, halfPages(c))}
}

// halfAt is the half that begins at a page.
func halfAt(c *Chip, first int) half {
	head := c.Read(first)
	counter, count := number(head[:countAt]), number(head[countAt:sumAt])
	// As long as it is not known to have room, the count is not made an int: it may be any of 32 bits.
	if counter == 0 || count > uint64(Room(c)) {
		return half{first: first}
	}
	b := readBytes(c, first+1, int(count))
	if number(head[sumAt:]) != uint64(sumOf(head, b)) {
		return half{first: first}
	}
	return half{first, uint16(counter), b}
}

// latest is which of the halves has what is kept. If neither holds any, it is the second one: what is saved next goes into the other one, with the counter next to 0.
func latest(l [halfCount]half) int {
	if l[0].counter == 0 || l[1].counter == next(l[0].counter) {
		return 1
	}
	return 0
}

// next is the counter behind another one. It is never 0, which is that of a half that holds nothing.
func next(counter uint16) uint16 {
	if counter == math.MaxUint16 {
		return 1
	}
	return counter + 1
}

// headOf is the head of a half that holds bytes.
func headOf(counter uint16, b []byte) [pageLen]byte {
	var head [pageLen]byte
	putNumber(head[:countAt], uint64(counter))
	putNumber(head[countAt:sumAt], uint64(len(b)))
	putNumber(head[sumAt:], uint64(sumOf(head, b)))
	return head
}

// sumOf is the sum that a head should have, whichever it has.
func sumOf(head [pageLen]byte, b []byte) uint16 {
	return bits.CRC16(slices.Concat(head[:sumAt], b))
}

// readBytes is so many bytes from a page on.
func readBytes(c *Chip, page, count int) []byte {
	b := make([]byte, count)
	for rest := b; len(rest) > 0; page++ {
		read := c.Read(page)
		rest = rest[copy(rest, read[:]):]
	}
	return b
}

// writeBytes lays bytes into pages from one on, and tells whether all Writes were true.
func writeBytes(c *Chip, page int, b []byte) bool {
	for part := range slices.Chunk(b, pageLen) {
		var filled [pageLen]byte
		copy(filled[:], part)
		if !c.Write(page, filled) {
			return false
		}
		page++
	}
	return true
}

// number is that of bytes, the lowest first.
func number(b []byte) uint64 {
	var n uint64
	for i, x := range b {
		n |= uint64(x) << (i * byteBits)
	}
	return n
}

func putNumber(b []byte, n uint64) {
	for i := range b {
		b[i] = byte(n >> (i * byteBits))
	}
}

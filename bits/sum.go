package bits

import "tramway/api"

const (
	crcWidth = 15
	crcMask  = 1<<crcWidth - 1
	crcPoly  = 0x4599

	crc16Poly = 0x1021
)

// CRC is the sum of a frame's bits.
func CRC(s string) (uint16, api.Errno) {
	if err := look(s); err != api.OK {
		return 0, err
	}
	var sum uint16
	for _, level := range s {
		out := sum >> (crcWidth - 1)
		sum = sum << 1 & crcMask
		if out != uint16(level-dominant) {
			sum ^= crcPoly
		}
	}
	return sum, api.OK
}

// CRC16 is a sum of bytes.
func CRC16(b []byte) uint16 {
	var sum uint16
	for _, x := range b {
		sum ^= uint16(x) << 8
		for range 8 {
			out := sum >> 15
			sum <<= 1
			if out == 1 {
				sum ^= crc16Poly
			}
		}
	}
	return sum
}

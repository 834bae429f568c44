package lss

import "testing"

// P19.1: a command, and a number in the bytes behind it, the lowest first; the others are 0.
func TestOrder(t *testing.T) {
	for _, x := range []struct {
		command byte
		n       uint32
		want    [8]byte
	}{
		{0, 0, [8]byte{}},
		{4, 1, [8]byte{4, 1}},
		{17, 255, [8]byte{17, 255}},
		{19, 0x0300, [8]byte{19, 0, 3}},
		{64, 0x04030201, [8]byte{64, 1, 2, 3, 4}},
		{67, 0xfffefdfc, [8]byte{67, 252, 253, 254, 255}},
		{81, 1 << 31, [8]byte{81, 0, 0, 0, 128}},
		{255, 0xffffffff, [8]byte{255, 255, 255, 255, 255}},
	} {
		if q := Order(x.command, x.n); q != x.want {
			t.Errorf("Order(%d, %x): %v", x.command, x.n, q)
		}
	}
	r := dice(190)
	for range 1000 {
		command, n := byte(r.next()), uint32(r.next())
		if q := Order(command, n); q != frame(command, n) {
			t.Errorf("Order(%d, %x): %v", command, n, q)
		}
	}
	for command := range 256 {
		for bit := range 32 {
			if q := Order(byte(command), 1<<bit); q != frame(byte(command), 1<<bit) {
				t.Errorf("Order(%d, 1<<%d): %v", command, bit, q)
			}
		}
	}
}

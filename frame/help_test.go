package frame

import (
	"fmt"
	"strings"
	"testing"

	"tramway/api"
)

// dice is a source of numbers that are the same at each run.
type dice uint64

func (d *dice) next() uint64 {
	*d ^= *d << 13
	*d ^= *d >> 7
	*d ^= *d << 17
	return uint64(*d)
}

// below is a number from 0 to n, less 1.
func (d *dice) below(n int) int { return int(d.next() % uint64(n)) }

// frame is a frame that can be; long rows of one level are frequent in it.
func (d *dice) frame() api.Frame {
	f := api.Frame{Extended: d.below(2) == 0, Remote: d.below(4) == 0, Len: d.below(16)}
	if d.below(2) == 0 {
		f.Len = d.below(9)
	}
	f.ID = uint32(d.next()) & []uint32{0, 0xffffffff, 0xff00ff00, uint32(d.next())}[d.below(4)]
	f.ID &= 1<<11 - 1
	if f.Extended {
		f.ID = f.ID<<18 | uint32(d.below(1<<18))&uint32(d.next())
	}
	for i := range f.Data {
		f.Data[i] = []byte{0, 255, 0x0f, 0xf8, byte(d.next())}[d.below(5)]
	}
	return f
}

// edgeFrames are frames that can be, with each kind and each Len, at the edges of their IDs.
func edgeFrames() []api.Frame {
	var l []api.Frame
	for n := range 16 {
		for _, remote := range []bool{false, true} {
			for _, id := range []uint32{0, 1, 0x555, 0x7fe, 0x7ff} {
				f := api.Frame{ID: id, Remote: remote, Len: n, Data: [8]byte{0, 255, 1, 0x80, 0x55, 0xf0, 0x1f, 9}}
				l = append(l, f)
				f.Extended = true
				l = append(l, f)
				f.ID = id<<18 | 0x2aaaa
				l = append(l, f)
				f.ID = id<<18 | (1<<18 - 1)
				l = append(l, f)
			}
		}
	}
	return l
}

// manyFrames are edgeFrames and frames of a dice.
func manyFrames(n int) []api.Frame {
	d := dice(2)
	l := edgeFrames()
	for range n {
		l = append(l, d.frame())
	}
	return l
}

// sumOf is the remainder of a text with 15 noughts behind it, divided as a polynomial by x^15+x^14+x^10+x^8+x^7+x^4+x^3+1.
func sumOf(s string) string {
	const divisor = "1100010110011001"
	b := []byte(s + strings.Repeat("0", 15))
	for i := range s {
		if b[i] == '1' {
			for j := range divisor {
				b[i+j] = '0' + (b[i+j] ^ divisor[j])
			}
		}
	}
	return string(b[len(s):])
}

// stuffed is a text with a bit of the other level behind each five.
func stuffed(s string) string {
	var out string
	for _, b := range s {
		out += string(b)
		if strings.HasSuffix(out, "00000") && closed(out) {
			out += "1"
		}
		if strings.HasSuffix(out, "11111") && closed(out) {
			out += "0"
		}
	}
	return out
}

// closed tells whether the row at the end of a text is of just five; with what is put in no row is longer.
func closed(s string) bool {
	return len(s) == 5 || s[len(s)-6] != s[len(s)-1]
}

// fieldOf is a frame's arbitration field, written out.
func fieldOf(f api.Frame) string {
	remote := "0"
	if f.Remote {
		remote = "1"
	}
	if f.Extended {
		id := fmt.Sprintf("%029b", f.ID)
		return id[:11] + "11" + id[11:] + remote
	}
	return fmt.Sprintf("%011b", f.ID) + remote + "0"
}

// headOf is a frame's body without its sum, written out.
func headOf(f api.Frame) string {
	s := "0" + fieldOf(f) + "0"
	if f.Extended {
		s += "0"
	}
	s += fmt.Sprintf("%04b", f.Len)
	for i := 0; !f.Remote && i < 8 && i < f.Len; i++ {
		s += fmt.Sprintf("%08b", f.Data[i])
	}
	return s
}

// bodyOf is a body of that head: its sum behind it.
func bodyOf(head string) string { return head + sumOf(head) }

// flipped is a text with bits turned about.
func flipped(s string, at ...int) string {
	b := []byte(s)
	for _, i := range at {
		b[i] ^= 1
	}
	return string(b)
}

// encoded is a frame's bits with ack; the test ends if there are none.
func encoded(t *testing.T, f api.Frame) string {
	t.Helper()
	s, err := Encode(f, true)
	if err != api.OK {
		t.Fatalf("Encode(%v): %d", f, err)
	}
	return s
}

// wantFault looks whether Decode tells a fault, and the zero frame beside it.
func wantFault(t *testing.T, s string, place int, err api.Errno) {
	t.Helper()
	f, n, e := Decode(s)
	if f != (api.Frame{}) || n != place || e != err {
		t.Errorf("Decode(%q): %v %d %d, want the zero frame, %d, %d", short(s), f, n, e, place, err)
	}
}

func short(s string) string {
	if len(s) > 200 {
		return s[:200] + ".."
	}
	return s
}

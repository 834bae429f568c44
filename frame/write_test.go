package frame

import (
	"strings"
	"testing"

	"tramway/api"
	"tramway/bits"
)

// P2.1: arbitration fields, written out by hand.
func TestField(t *testing.T) {
	for _, c := range []struct {
		f    api.Frame
		want string
	}{
		{api.Frame{}, "0000000000000"},
		{api.Frame{ID: 100}, "0000110010000"},
		{api.Frame{ID: 100, Remote: true}, "0000110010010"},
		{api.Frame{ID: 0x7ff, Len: 8}, "1111111111100"},
		{api.Frame{Extended: true}, "00000000000" + "11" + "000000000000000000" + "0"},
		{api.Frame{Extended: true, Remote: true}, "00000000000" + "11" + "000000000000000000" + "1"},
		{api.Frame{ID: 100 << 18, Extended: true}, "00001100100" + "11" + "000000000000000000" + "0"},
		{api.Frame{ID: 100<<18 | 5, Extended: true, Remote: true}, "00001100100" + "11" + "000000000000000101" + "1"},
		{api.Frame{ID: 1<<29 - 1, Extended: true}, "11111111111" + "11" + "111111111111111111" + "0"},
		{api.Frame{ID: 1 << 28, Extended: true}, "10000000000" + "11" + "000000000000000000" + "0"},
		{api.Frame{ID: 1 << 17, Extended: true}, "00000000000" + "11" + "100000000000000000" + "0"},
	} {
		if got, err := Field(c.f); got != c.want || err != api.OK {
			t.Errorf("Field(%v): %s %d, want %s", c.f, got, err, c.want)
		}
	}
	for _, f := range manyFrames(2000) {
		if got, err := Field(f); got != fieldOf(f) || err != api.OK {
			t.Errorf("Field(%v): %s %d, want %s", f, got, err, fieldOf(f))
		}
	}
}

// P2.1: the chapter's example: a body of 34 noughts, and what stands behind it.
func TestEncodeNoughts(t *testing.T) {
	body := strings.Repeat("000001", 6) + "0000"
	for _, c := range []struct {
		ack  bool
		want string
	}{
		{true, body + "1" + "0" + "1" + "1111111"},
		{false, body + "1" + "1" + "1" + "1111111"},
	} {
		if got, err := Encode(api.Frame{}, c.ack); got != c.want || err != api.OK {
			t.Errorf("Encode(zero, %t): %s %d", c.ack, got, err)
		}
	}
}

// P2.1: a frame's bits against bits put together otherwise.
func TestEncode(t *testing.T) {
	for _, f := range manyFrames(3000) {
		body := stuffed(bodyOf(headOf(f)))
		if got, err := Encode(f, true); got != body+"1011111111" || err != api.OK {
			t.Errorf("Encode(%v, true): %s %d, want %s", f, got, err, body+"1011111111")
		}
		if got, err := Encode(f, false); got != body+"1111111111" || err != api.OK {
			t.Errorf("Encode(%v, false): %s %d, want %s", f, got, err, body+"1111111111")
		}
	}
}

// P2.1: bytes that a frame has not play no part in its bits.
func TestEncodeSpareBytes(t *testing.T) {
	for _, f := range manyFrames(1000) {
		if s := encoded(t, f); s != encoded(t, Plain(f)) {
			t.Errorf("%v: other bits than those of its plain one", f)
		}
	}
	a, b := api.Frame{ID: 1, Len: 1, Data: [8]byte{1, 2}}, api.Frame{ID: 1, Len: 1, Data: [8]byte{1, 3}}
	if encoded(t, a) != encoded(t, b) {
		t.Error("a byte beyond Len is told")
	}
}

// bytesIn is how many bytes a frame has.
func bytesIn(f api.Frame) int {
	if f.Remote {
		return 0
	}
	return min(f.Len, 8)
}

// P2.7: no frame is longer than Longest, and ten bits stand behind each body.
func TestNeverLonger(t *testing.T) {
	most := map[bool]int{}
	for _, f := range manyFrames(20000) {
		s := encoded(t, f)
		longest, err := Longest(bytesIn(f), f.Extended)
		if err != api.OK || len(s) > longest {
			t.Fatalf("%v: %d bits, Longest says %d (%d)", f, len(s), longest, err)
		}
		if body := stuffed(bodyOf(headOf(f))); len(s) != len(body)+10 {
			t.Errorf("%v: %d bits, its body %d", f, len(s), len(body))
		}
		if bytesIn(f) == 0 {
			most[f.Extended] = max(most[f.Extended], len(s))
		}
	}
	// Frames with many bits put in are among those looked at, so that a bound that is too low would be found.
	if most[false] < 50 || most[true] < 72 {
		t.Errorf("the longest frames looked at without bytes have %d and %d bits", most[false], most[true])
	}
}

// P2.8: one to five bits of an unstuffed body turned about: the sum does not fit any more.
func TestTurnedBodies(t *testing.T) {
	d := dice(8)
	for _, f := range manyFrames(150) {
		s := encoded(t, f)
		body, _, err := bits.Unstuff(s[:len(s)-10])
		if err != api.OK || !sumFits(t, body) {
			t.Fatalf("%v: the body's sum is wrong: %s %d", f, body, err)
		}
		for i := range body {
			if sumFits(t, flipped(body, i)) {
				t.Errorf("%v: bit %d turned is not told", f, i)
			}
		}
		for range 60 {
			at := d.places(2+d.below(4), len(body))
			if sumFits(t, flipped(body, at...)) {
				t.Errorf("%v: bits %v turned are not told", f, at)
			}
		}
	}
}

// P2.8: all pairs of bits of a longest body.
func TestTurnedPairs(t *testing.T) {
	body := bodyOf(headOf(api.Frame{ID: 0x12345678 & (1<<29 - 1), Extended: true, Len: 8, Data: [8]byte{1, 2, 3, 4, 5, 6, 7, 8}}))
	if len(body) != 118 {
		t.Fatalf("a body of %d bits", len(body))
	}
	for i := range body {
		for j := range i {
			if sumFits(t, flipped(body, i, j)) {
				t.Errorf("bits %d and %d turned are not told", j, i)
			}
		}
	}
}

// P2.8, P2.2: such bits are told by Decode, unless they change how the frame is read on.
func TestTurnedDecode(t *testing.T) {
	d := dice(88)
	for _, f := range manyFrames(300) {
		body := bodyOf(headOf(f))
		first := len(headOf(f)) - 8*bytesIn(f)
		for n := 1; n <= 5; n++ {
			at := d.places(n, len(body)-first)
			for i := range at {
				at[i] += first
			}
			turned := stuffed(flipped(body, at...))
			wantFault(t, turned+"1011111111", len(turned), api.ErrCRC)
		}
	}
}

// places are n places below limit, no two the same.
func (d *dice) places(n, limit int) []int {
	var l []int
	seen := map[int]bool{}
	for len(l) < n {
		if i := d.below(limit); !seen[i] {
			seen[i] = true
			l = append(l, i)
		}
	}
	return l
}

// sumFits tells whether the CRC of a body's first bits is its last fifteen.
func sumFits(t *testing.T, body string) bool {
	t.Helper()
	sum, err := bits.CRC(body[:len(body)-15])
	last, err2 := bits.Value(body[len(body)-15:])
	if err != api.OK || err2 != api.OK {
		t.Fatal(err, err2)
	}
	return uint64(sum) == last
}

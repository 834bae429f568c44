package bits

import (
	"slices"
	"strings"
	"testing"

	"tramway/api"
)

// divided is what remains of a text, 15 noughts behind it, divided by the generator, in the way of the school.
func divided(s string) uint16 {
	const generator = "1100010110011001"
	b := []byte(s + strings.Repeat("0", 15))
	for i := range s {
		if b[i] == '1' {
			for j := range generator {
				b[i+j] = '0' + (b[i+j]^generator[j])&1
			}
		}
	}
	var n uint16
	for _, x := range b[len(s):] {
		n = n<<1 | uint16(x-'0')
	}
	return n
}

// P1.3, with the chapter's example.
func TestCRC(t *testing.T) {
	right := []struct {
		s    string
		want uint16
	}{
		{"", 0},
		{"0", 0},
		{"1", 0x4599},
		{"01", 0x4599},
		{"10", 0x4eab},
		{"11", 0x0b32},
		{strings.Repeat("0", 100), 0},
		{"1" + strings.Repeat("0", 126), divided("1" + strings.Repeat("0", 126))},
	}
	for _, r := range right {
		if n, err := CRC(r.s); n != r.want || err != api.OK {
			t.Errorf("%s: %x %d", short(r.s), n, err)
		}
	}
	for _, s := range allTexts(11) {
		if n, err := CRC(s); n != divided(s) || err != api.OK {
			t.Fatalf("%s: %x %d", s, n, err)
		}
	}
	d := dice(3)
	for range 200 {
		s := d.text(d.below(300))
		if n, err := CRC(s); n != divided(s) || n >= 1<<15 || err != api.OK {
			t.Fatalf("%s: %x %d", short(s), n, err)
		}
	}
}

// P1.3
func TestCRC16(t *testing.T) {
	right := []struct {
		b    []byte
		want uint16
	}{
		{nil, 0},
		{[]byte{}, 0},
		{[]byte{0}, 0},
		{[]byte{1}, 0x1021},
		{[]byte{2}, 0x2042},
		{[]byte{0x80}, 0x9188},
		{[]byte{0xff}, 0x1ef0},
		{[]byte{1, 0}, 0x3331},
		{[]byte("123456789"), 0x31c3},
		{make([]byte, 1<<17), 0},
		{append(make([]byte, 1<<17), 1), 0x1021},
	}
	for _, r := range right {
		before := slices.Clone(r.b)
		if n := CRC16(r.b); n != r.want {
			t.Errorf("%d bytes: %x", len(r.b), n)
		}
		if !slices.Equal(before, r.b) {
			t.Error("what was handed in is changed")
		}
	}
}

// summed is a text and its CRC in 15 bits behind it.
func summed(t *testing.T, s string) string {
	t.Helper()
	n, err := CRC(s)
	if err != api.OK {
		t.Fatal(err)
	}
	c, err := Number(uint64(n), 15)
	if err != api.OK {
		t.Fatal(err)
	}
	return s + c
}

// remains is the CRC of all but the last fifteen bits, xored with those: 0 if no fault is found.
func remains(t *testing.T, s string) uint16 {
	t.Helper()
	first, last := s[:len(s)-15], s[len(s)-15:]
	n, err := CRC(first)
	if err != api.OK {
		t.Fatal(err)
	}
	m, err := Value(last)
	if err != api.OK {
		t.Fatal(err)
	}
	return n ^ uint16(m)
}

// flipped is what remains of a text of which some bits are turned about.
func flipped(t *testing.T, s string, at ...int) uint16 {
	t.Helper()
	a, err := Flip(s, at)
	if err != api.OK {
		t.Fatal(err)
	}
	return remains(t, a)
}

// P1.6: one bit and two, all of them; up to five, and those next to each other, many of them.
func TestWhatASumFinds(t *testing.T) {
	d := dice(4)
	for _, n := range []int{0, 1, 19, 83, 112} {
		s := summed(t, d.text(n))
		if remains(t, s) != 0 {
			t.Fatal("a fault where none is")
		}
		for i := range s {
			for j := range i + 1 {
				at := []int{i, j}
				if i == j {
					at = at[:1]
				}
				if flipped(t, s, at...) == 0 {
					t.Fatal("not found:", n, at)
				}
			}
		}
		for range 3000 {
			if at := d.places(len(s), 3+d.below(3)); flipped(t, s, at...) == 0 {
				t.Fatal("not found:", n, at)
			}
			if at := d.near(len(s)); flipped(t, s, at...) == 0 {
				t.Fatal("not found:", n, at)
			}
		}
	}
}

// places are n different places of a text of that length.
func (d *dice) places(length, n int) []int {
	var at []int
	for len(at) < n {
		if i := d.below(length); !slices.Contains(at, i) {
			at = append(at, i)
		}
	}
	return at
}

// near are places of a text of that length of which the first and the last one are at most 15 bits apart, both counted.
func (d *dice) near(length int) []int {
	first := d.below(length)
	at := []int{first}
	for i := first + 1; i < min(first+15, length); i++ {
		if d.below(2) == 0 {
			at = append(at, i)
		}
	}
	return at
}

// P1.6, all of it for 127 bits: what remains of several bits that are turned about is xored of what remains of each (P1.9), so each needs to be looked at only once. Shorter texts are those that begin with noughts.
func TestWhatASumFindsEverywhere(t *testing.T) {
	s := summed(t, strings.Repeat("0", 112))
	var one [127]uint16
	for i := range one {
		one[i] = flipped(t, s, i)
	}
	var upToTwo [1 << 15]bool
	see := func(n uint16) {
		if upToTwo[n] {
			t.Fatal("up to four bits are not found")
		}
		upToTwo[n] = true
	}
	see(0)
	for i := range one {
		see(one[i])
		for j := range i {
			see(one[i] ^ one[j])
		}
	}
	for i := range one {
		for j := range i {
			for k := range j {
				if upToTwo[one[i]^one[j]^one[k]] {
					t.Fatal("five bits or less are not found")
				}
			}
		}
	}
	for first := range one {
		near := []uint16{one[first]}
		for i := first + 1; i < min(first+15, len(one)); i++ {
			for _, n := range near {
				near = append(near, n^one[i])
			}
		}
		if slices.Contains(near, 0) {
			t.Fatal("bits next to each other are not found, from", first)
		}
	}
}

// P1.8
func TestNothingRemains(t *testing.T) {
	d := dice(5)
	for n := range 300 {
		b := make([]byte, n)
		for i := range b {
			b[i] = byte(d.next() >> 20)
		}
		sum := CRC16(b)
		if CRC16(append(b, byte(sum>>8), byte(sum))) != 0 {
			t.Fatalf("%x: %x", b, sum)
		}
		if n > 0 {
			b[d.below(n)] ^= byte(1 + d.below(255))
			if CRC16(append(b, byte(sum>>8), byte(sum))) == 0 {
				t.Fatalf("%x: another byte is not seen", b)
			}
		}
	}
}

// P1.9
func TestPutTogether(t *testing.T) {
	look := func(s, u string) {
		t.Helper()
		a, _ := CRC(s)
		b, _ := CRC(u)
		c, err := CRC(xored(t, s, u))
		if c != a^b || err != api.OK {
			t.Fatalf("%s %s: %x %x %x %d", short(s), short(u), a, b, c, err)
		}
	}
	l := allTexts(6)
	for _, s := range l {
		for _, u := range l {
			if len(s) == len(u) {
				look(s, u)
			}
		}
	}
	d := dice(6)
	for range 300 {
		n := d.below(400)
		look(d.text(n), d.text(n))
	}
	look(d.text(api.MaxBits), d.text(api.MaxBits))
}

package bits

import (
	"math"
	"strconv"
	"strings"
	"testing"

	"tramway/api"
)

// P1.1, and the text's error.
func TestValid(t *testing.T) {
	right := []string{"", "0", "1", "0110", strings.Repeat("0", api.MaxBits), strings.Repeat("1", api.MaxBits)}
	for _, s := range right {
		if !Valid(s) {
			t.Error("not valid:", short(s), len(s))
		}
	}
	for _, w := range wrongTexts {
		if Valid(w.s) {
			t.Error("valid:", w.name)
		}
	}
	for b := range 256 {
		if Valid(string([]byte{byte(b)})) != (b == '0' || b == '1') {
			t.Error("byte", b)
		}
	}
}

// P1.1
func TestNumber(t *testing.T) {
	right := []struct {
		n     uint64
		width int
		want  string
	}{
		{0, 0, ""},
		{0, 1, "0"},
		{1, 1, "1"},
		{5, 3, "101"},
		{5, 4, "0101"},
		{6, 8, "00000110"},
		{0, 64, strings.Repeat("0", 64)},
		{1, 64, strings.Repeat("0", 63) + "1"},
		{1 << 63, 64, "1" + strings.Repeat("0", 63)},
		{math.MaxUint64, 64, strings.Repeat("1", 64)},
		{math.MaxUint64 >> 1, 63, strings.Repeat("1", 63)},
	}
	for _, r := range right {
		if s, err := Number(r.n, r.width); s != r.want || err != api.OK {
			t.Error(r.n, r.width, s, err)
		}
	}
	wrong := []struct {
		n     uint64
		width int
	}{
		{0, -1}, {0, 65}, {1, 65}, {1, -1}, {1, 0}, {2, 1}, {16, 4}, {1 << 63, 63},
		{math.MaxUint64, 63}, {math.MaxUint64, 0}, {0, math.MinInt}, {0, math.MaxInt}, {7, -64}, {0, 1 << 32},
	}
	for _, w := range wrong {
		if s, err := Number(w.n, w.width); s != "" || err != api.ErrArg {
			t.Error(w.n, w.width, short(s), err)
		}
	}
}

// P1.1
func TestNumberAtEachWidth(t *testing.T) {
	for width := range 64 {
		least := uint64(1) << width // the least number that has more bits
		if s, err := Number(least-1, width); s != strings.Repeat("1", width) || err != api.OK {
			t.Error(width, s, err)
		}
		if s, err := Number(least, width); s != "" || err != api.ErrArg {
			t.Error(width, s, err)
		}
	}
}

// P1.1
func TestValue(t *testing.T) {
	right := []struct {
		s    string
		want uint64
	}{
		{"", 0},
		{"0", 0},
		{"1", 1},
		{"01", 1},
		{"10", 2},
		{"1010", 10},
		{strings.Repeat("0", 64), 0},
		{strings.Repeat("1", 64), math.MaxUint64},
		{"1" + strings.Repeat("0", 63), 1 << 63},
		{strings.Repeat("1", 63), math.MaxUint64 >> 1},
	}
	for _, r := range right {
		if n, err := Value(r.s); n != r.want || err != api.OK {
			t.Error(r.s, n, err)
		}
	}
	wrong := []struct {
		s   string
		err api.Errno
	}{
		{strings.Repeat("0", 65), api.ErrLong},
		{strings.Repeat("1", 65), api.ErrLong},
		{strings.Repeat("0", api.MaxBits), api.ErrLong},
		{strings.Repeat("0", 65) + "2", api.ErrForm}, // its bytes are looked at ahead of the 64 bits
		{"1x", api.ErrForm},
	}
	for _, w := range wrong {
		if n, err := Value(w.s); n != 0 || err != w.err {
			t.Error(short(w.s), n, err)
		}
	}
}

// Each function that is handed a text looks at it first: P1.1 to P1.4.
func TestTextsThatAreNotBits(t *testing.T) {
	for _, w := range wrongTexts {
		if n, err := Value(w.s); n != 0 || err != w.err {
			t.Error("Value", w.name, n, err)
		}
		if s, err := Stuff(w.s); s != "" || err != w.err {
			t.Error("Stuff", w.name, short(s), err)
		}
		if s, n, err := Unstuff(w.s); s != "" || n != 0 || err != w.err {
			t.Error("Unstuff", w.name, short(s), n, err)
		}
		if n, err := CRC(w.s); n != 0 || err != w.err {
			t.Error("CRC", w.name, n, err)
		}
		if s, err := Wired([]string{"1", w.s}); s != "" || err != w.err {
			t.Error("Wired", w.name, short(s), err)
		}
		if s, err := Flip(w.s, []int{0}); s != "" || err != w.err {
			t.Error("Flip", w.name, short(s), err)
		}
		if s, err := Flip(w.s, []int{-1}); s != "" || err != w.err { // the text goes ahead of the places
			t.Error("Flip", w.name, short(s), err)
		}
	}
}

// As many bits as there may be are bits to each function.
func TestLongestTexts(t *testing.T) {
	s := strings.Repeat("01", api.MaxBits/2)
	if a, err := Stuff(s); a != s || err != api.OK {
		t.Error("Stuff", short(a), err)
	}
	if a, n, err := Unstuff(s); a != s || n != api.MaxBits || err != api.OK {
		t.Error("Unstuff", short(a), n, err)
	}
	if n, err := CRC(strings.Repeat("0", api.MaxBits-1) + "1"); n != 0x4599 || err != api.OK {
		t.Error("CRC", n, err)
	}
	if a, err := Wired([]string{s, "1", s}); a != s || err != api.OK {
		t.Error("Wired", short(a), err)
	}
	if a, err := Flip(s, []int{api.MaxBits - 1}); a != s[:api.MaxBits-1]+"0" || err != api.OK {
		t.Error("Flip", short(a), err)
	}
	if a, err := Flip(s, []int{api.MaxBits}); a != "" || err != api.ErrArg {
		t.Error("Flip", short(a), err)
	}
}

// P1.5: Value of Number is n.
func TestNumberAndBack(t *testing.T) {
	d := dice(1)
	for width := range 65 {
		for range 50 {
			n := d.next()
			if width < 64 {
				n &= 1<<width - 1
			}
			s, err := Number(n, width)
			if len(s) != width || err != api.OK {
				t.Fatal(n, width, s, err)
			}
			if m, err := Value(s); m != n || err != api.OK {
				t.Fatal(n, width, s, m, err)
			}
			if width > 0 {
				if m, err := strconv.ParseUint(s, 2, 64); m != n || err != nil {
					t.Fatal(n, width, s, m, err)
				}
			}
		}
	}
}

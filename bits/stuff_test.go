package bits

import (
	"strings"
	"testing"

	"tramway/api"
)

// P1.2, with the chapter's examples.
func TestStuff(t *testing.T) {
	right := []struct{ s, want string }{
		{"", ""},
		{"0", "0"},
		{"0000", "0000"},
		{"1111", "1111"},
		{"0101", "0101"},
		{"00000", "000001"}, // five in a row at the very end
		{"11111", "111110"},
		{"100000", "1000001"},
		{"000000", "0000010"},
		{"000001", "0000011"},
		{"111110", "1111100"},
		{"000001111", "00000111110"}, // what was put in is the first of the next row
		{"00000111", "000001111"},
		{"0000011110000", "00000111110000" + "01"},
		{"0000000000", "000001000001"},
		{"1111111111", "111110111110"},
		{"0000100001", "0000100001"},
		{"00001111100000", "0000111110" + "00001" + "0"},
	}
	for _, r := range right {
		if s, err := Stuff(r.s); s != r.want || err != api.OK {
			t.Error(r.s, s, err)
		}
		if s, n, err := Unstuff(r.want); s != r.s || n != len(r.want) || err != api.OK {
			t.Error(r.want, s, n, err)
		}
	}
}

// P1.2
func TestStuffOfTheLongest(t *testing.T) {
	s, err := Stuff(strings.Repeat("0", api.MaxBits))
	want := strings.Repeat("000001", api.MaxBits/5) + "0"
	if s != want || err != api.OK {
		t.Error(short(s), len(s), err)
	}
	if s, n, err := Unstuff(want); s != "" || n != 0 || err != api.ErrLong { // Unstuff looks at its own text first
		t.Error(short(s), n, err)
	}
}

// P1.2
func TestUnstuffRefuses(t *testing.T) {
	wrong := []struct {
		s   string
		n   int
		err api.Errno
	}{
		{"00000", 5, api.ErrShort},
		{"11111", 5, api.ErrShort},
		{"01111100000", 11, api.ErrShort},
		{"100000", 6, api.ErrShort},
		{"0000011111", 10, api.ErrShort}, // the row of what was left out, and four more
		{"000000", 5, api.ErrStuff},
		{"111111", 5, api.ErrStuff},
		{"1000000", 6, api.ErrStuff},
		{"00000111111", 10, api.ErrStuff},
		{"0000001", 5, api.ErrStuff},
		{"00000011111", 5, api.ErrStuff}, // read from the left: the first fault
		{"000001" + "111111", 10, api.ErrStuff},
		{strings.Repeat("01", api.MaxBits/2-3) + "000000", api.MaxBits - 1, api.ErrStuff},
		{strings.Repeat("10", api.MaxBits/2-3) + "100000", api.MaxBits, api.ErrShort},
	}
	for _, w := range wrong {
		if s, n, err := Unstuff(w.s); s != "" || n != w.n || err != w.err {
			t.Error(short(w.s), short(s), n, err)
		}
	}
}

// rows tells whether six bits in a row are of one level.
func rows(s string) bool {
	return strings.Contains(s, "000000") || strings.Contains(s, "111111")
}

func thereAndBack(t *testing.T, s string) {
	t.Helper()
	a, err := Stuff(s)
	if err != api.OK || rows(a) {
		t.Fatal(short(s), short(a), err)
	}
	b, n, err := Unstuff(a)
	if b != s || n != len(a) || err != api.OK {
		t.Fatal(short(s), short(a), short(b), n, err)
	}
}

// P1.5: Unstuff of Stuff is s, and no six bits in a row are of one level.
func TestThereAndBack(t *testing.T) {
	for _, s := range allTexts(12) {
		thereAndBack(t, s)
	}
	d := dice(2)
	for range 300 {
		thereAndBack(t, d.text(d.below(700)))
	}
	thereAndBack(t, d.text(50000))
	thereAndBack(t, strings.Repeat("0", api.MaxBits/6*5)) // what is stuffed is as long as it may be
}

// P1.2: what Unstuff takes is just what Stuff tells.
func TestUnstuffTakesWhatStuffTells(t *testing.T) {
	told := map[string]string{}
	for _, s := range allTexts(13) {
		a, _ := Stuff(s)
		told[a] = s
	}
	for _, a := range allTexts(13) {
		s, there := told[a]
		b, n, err := Unstuff(a)
		if there != (err == api.OK) || b != s {
			t.Fatal(a, b, n, err)
		}
		if six := min(place(a, "000000"), place(a, "111111")); six < len(a) && err == api.OK {
			t.Fatal(a, n, err)
		} else if err == api.ErrStuff && n != six+5 {
			t.Fatal(a, n, err)
		}
		if err == api.ErrShort && n != len(a) {
			t.Fatal(a, n, err)
		}
	}
}

// place is where a text is first in another one, its length if it is not.
func place(s, of string) int {
	if i := strings.Index(s, of); i >= 0 {
		return i
	}
	return len(s)
}

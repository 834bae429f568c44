package bits

import (
	"math"
	"slices"
	"strings"
	"testing"

	"tramway/api"
)

// P1.4
func TestWired(t *testing.T) {
	right := []struct {
		l    []string
		want string
	}{
		{nil, ""},
		{[]string{}, ""},
		{[]string{""}, ""},
		{[]string{"", ""}, ""},
		{[]string{"0110"}, "0110"},
		{[]string{"1101", "101"}, "1001"},
		{[]string{"0", "1"}, "0"},
		{[]string{"1", "1"}, "1"},
		{[]string{"0011", "0101"}, "0001"},
		{[]string{"", "10"}, "10"},
		{[]string{"0", "1111"}, "0111"},
		{[]string{"1111", "11", "110"}, "1101"},
		{[]string{"011", "101", "110"}, "000"},
	}
	for _, r := range right {
		before := slices.Clone(r.l)
		if s, err := Wired(r.l); s != r.want || err != api.OK {
			t.Error(r.l, s, err)
		}
		if !slices.Equal(before, r.l) {
			t.Error("what was handed in is changed")
		}
	}
}

// P1.4: the first error of a text, in the order of the list.
func TestWiredRefuses(t *testing.T) {
	long := strings.Repeat("0", api.MaxBits+1)
	wrong := []struct {
		l   []string
		err api.Errno
	}{
		{[]string{"2"}, api.ErrForm},
		{[]string{"0", "1", "1a"}, api.ErrForm},
		{[]string{long}, api.ErrLong},
		{[]string{"x", long}, api.ErrForm},
		{[]string{long, "x"}, api.ErrLong},
		{[]string{"01", "x", "", long}, api.ErrForm},
		{[]string{"01", long + "x", "x"}, api.ErrLong},
	}
	for _, w := range wrong {
		if s, err := Wired(w.l); s != "" || err != w.err {
			t.Error(len(w.l), short(s), err)
		}
	}
}

// P1.4
func TestFlip(t *testing.T) {
	right := []struct {
		s    string
		at   []int
		want string
	}{
		{"", nil, ""},
		{"", []int{}, ""},
		{"0110", nil, "0110"},
		{"0", []int{0}, "1"},
		{"1", []int{0}, "0"},
		{"0000", []int{0}, "1000"},
		{"0000", []int{3}, "0001"},
		{"0110", []int{3, 1}, "0011"},
		{"1100", []int{0, 3, 3}, "0100"},
		{"1100", []int{2, 2}, "1100"},
		{"1100", []int{2, 0, 2, 2}, "0110"},
		{"1100", []int{0, 1, 2, 3}, "0011"},
	}
	for _, r := range right {
		before := slices.Clone(r.at)
		if s, err := Flip(r.s, r.at); s != r.want || err != api.OK {
			t.Error(r.s, r.at, s, err)
		}
		if !slices.Equal(before, r.at) {
			t.Error("what was handed in is changed")
		}
	}
}

// P1.4
func TestFlipRefuses(t *testing.T) {
	wrong := []struct {
		s   string
		at  []int
		err api.Errno
	}{
		{"", []int{0}, api.ErrArg},
		{"", []int{-1}, api.ErrArg},
		{"1", []int{1}, api.ErrArg},
		{"1", []int{-1}, api.ErrArg},
		{"0101", []int{4}, api.ErrArg},
		{"0101", []int{0, 1, 4}, api.ErrArg},
		{"0101", []int{-1, 0}, api.ErrArg},
		{"0101", []int{4, 4}, api.ErrArg},
		{"0101", []int{math.MaxInt}, api.ErrArg},
		{"0101", []int{math.MinInt}, api.ErrArg},
		{"01x1", []int{4}, api.ErrForm},
		{strings.Repeat("0", api.MaxBits+1), []int{api.MaxBits + 1}, api.ErrLong},
	}
	for _, w := range wrong {
		if s, err := Flip(w.s, w.at); s != "" || err != w.err {
			t.Error(short(w.s), w.at, short(s), err)
		}
	}
}

// P1.7
func TestOneWire(t *testing.T) {
	l := allTexts(5)
	for _, s := range l {
		if a, err := Wired([]string{s, s}); a != s || err != api.OK {
			t.Fatal(s, a, err)
		}
		for _, u := range l {
			a, err := Wired([]string{s, u})
			if err != api.OK || len(a) != max(len(s), len(u)) {
				t.Fatal(s, u, a, err)
			}
			if b, err := Wired([]string{u, s}); b != a || err != api.OK {
				t.Fatal(s, u, a, b, err)
			}
		}
	}
}

// P1.7
func TestOneWireOfMany(t *testing.T) {
	d := dice(7)
	for range 200 {
		var l []string
		for range d.below(8) {
			l = append(l, d.text(d.below(40)))
		}
		want, err := Wired(l)
		if err != api.OK {
			t.Fatal(l, err)
		}
		for i := len(l) - 1; i > 0; i-- {
			j := d.below(i + 1)
			l[i], l[j] = l[j], l[i]
		}
		if s, err := Wired(l); s != want || err != api.OK {
			t.Fatal(l, s, want, err)
		}
		if s, err := Wired(slices.Concat(l, l)); s != want || err != api.OK {
			t.Fatal(l, s, want, err)
		}
	}
}

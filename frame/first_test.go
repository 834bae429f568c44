package frame

import (
	"slices"
	"testing"

	"tramway/api"
	"tramway/bits"
)

// P2.3: ordinary lists, and the chapter's example.
func TestFirst(t *testing.T) {
	for _, c := range []struct {
		l    []api.Frame
		want int
	}{
		{[]api.Frame{{ID: 100}, {ID: 100 << 18, Extended: true}}, 0},
		{[]api.Frame{{ID: 100 << 18, Extended: true}, {ID: 100}}, 1},
		{[]api.Frame{{ID: 100 << 18, Extended: true}, {ID: 100, Remote: true}}, 1},
		{[]api.Frame{{ID: 100, Remote: true}, {ID: 100}}, 1},
		{[]api.Frame{{ID: 100 << 18, Extended: true, Remote: true}, {ID: 100 << 18, Extended: true}}, 1},
		{[]api.Frame{{ID: 101}, {ID: 100<<18 | 1<<18 - 1, Extended: true, Remote: true}}, 1},
		{[]api.Frame{{ID: 5, Extended: true}, {ID: 1}}, 0},
		{[]api.Frame{{ID: 7}}, 0},
		{[]api.Frame{{ID: 1<<29 - 1, Extended: true, Remote: true}}, 0},
		{[]api.Frame{{ID: 3}, {ID: 2}, {ID: 1}, {ID: 4}}, 2},
		{[]api.Frame{{ID: 3}, {ID: 2}, {ID: 4}, {}}, 3},
		{[]api.Frame{{ID: 0x400}, {ID: 0x3ff}}, 1},
	} {
		if got, err := First(c.l); got != c.want || err != api.OK {
			t.Errorf("First(%v): %d %d, want %d", c.l, got, err, c.want)
		}
	}
}

// P2.3: what is refused, and what is refused first.
func TestFirstRefuses(t *testing.T) {
	wide, long := api.Frame{ID: 1 << 11}, api.Frame{Len: 16}
	for _, c := range []struct {
		name string
		l    []api.Frame
		err  api.Errno
	}{
		{"nil", nil, api.ErrShort},
		{"none", []api.Frame{}, api.ErrShort},
		{"one that can't be", []api.Frame{wide}, api.ErrArg},
		{"the last can't be", []api.Frame{{ID: 1}, {ID: 2}, long}, api.ErrArg},
		{"two the same, and one that can't be", []api.Frame{{ID: 1}, {ID: 1}, wide}, api.ErrArg},
		{"two that can't be, the same", []api.Frame{long, long}, api.ErrArg},
		{"a Len below 0", []api.Frame{{ID: 9}, {Len: -1}}, api.ErrArg},
		{"two the same", []api.Frame{{ID: 1}, {ID: 1}}, api.ErrThere},
		{"two of one field with other bytes", []api.Frame{{ID: 1, Len: 1, Data: [8]byte{1}}, {ID: 1, Len: 8, Data: [8]byte{2}}}, api.ErrThere},
		{"two the same that leave off", []api.Frame{{ID: 9}, {ID: 0}, {ID: 3}, {ID: 9}}, api.ErrThere},
		{"two extended ones the same", []api.Frame{{ID: 0}, {ID: 1 << 20, Extended: true}, {ID: 1 << 20, Extended: true, Len: 3}}, api.ErrThere},
		{"two remote ones the same", []api.Frame{{ID: 7, Remote: true}, {ID: 7}, {ID: 7, Remote: true, Len: 3}}, api.ErrThere},
	} {
		if got, err := First(c.l); got != 0 || err != c.err {
			t.Errorf("%s: %d %d, want 0 %d", c.name, got, err, c.err)
		}
	}
}

// leftOver is who is left, if at each place those leave off whose bit is not the wire's.
func leftOver(t *testing.T, l []api.Frame) int {
	t.Helper()
	var there []int
	for i := range l {
		there = append(there, i)
	}
	for place := 0; len(there) > 1; place++ {
		var sent []string
		for _, i := range there {
			sent = append(sent, fieldOf(l[i])[place:place+1])
		}
		wire, err := bits.Wired(sent)
		if err != api.OK {
			t.Fatal(err)
		}
		var still []int
		for _, i := range there {
			if fieldOf(l[i])[place:place+1] == wire {
				still = append(still, i)
			}
		}
		there = still
	}
	return there[0]
}

// different are frames of n different fields, many of them alike at their beginning.
func (d *dice) different(n int) []api.Frame {
	var l []api.Frame
	seen := map[string]bool{}
	for len(l) < n {
		f := d.frame()
		if d.below(2) == 0 {
			f.ID &= 0x3
			if f.Extended {
				f.ID = f.ID<<18 | uint32(d.below(2))
			}
		}
		if !seen[fieldOf(f)] {
			seen[fieldOf(f)] = true
			l = append(l, f)
		}
	}
	return l
}

// P2.6: First is who is left on the wire; and the list is as it was.
func TestFirstOnTheWire(t *testing.T) {
	d := dice(6)
	for range 3000 {
		l := d.different(1 + d.below(9))
		old := slices.Clone(l)
		got, err := First(l)
		if want := leftOver(t, l); got != want || err != api.OK {
			t.Fatalf("First(%v): %d %d, want %d", l, got, err, want)
		}
		if !slices.Equal(l, old) {
			t.Fatalf("the list was changed: %v", l)
		}
	}
}

// P2.10: of two, in whatever order; First of several is the one that is first of all pairs.
func TestFirstIsAnOrder(t *testing.T) {
	d := dice(10)
	l := slices.Concat(d.different(120), edgeFrames()[:60])
	for _, a := range l {
		for _, b := range l {
			got, err := First([]api.Frame{a, b})
			switch x, y := fieldOf(a), fieldOf(b); {
			case x == y && (got != 0 || err != api.ErrThere):
				t.Fatalf("%v, %v: %d %d, want ErrThere", a, b, got, err)
			case x < y && (got != 0 || err != api.OK), y < x && (got != 1 || err != api.OK):
				t.Fatalf("%v, %v: %d %d", a, b, got, err)
			}
		}
	}
	for range 500 {
		l := d.different(2 + d.below(6))
		got, err := First(l)
		for i := range l {
			if i == got {
				continue
			}
			if n, err2 := First([]api.Frame{l[i], l[got]}); n != 1 || err != api.OK || err2 != api.OK {
				t.Fatalf("First(%v) is %d, but %d is ahead", l, got, i)
			}
		}
	}
}

// P2.3: all base frames at once, and one of them once more.
func TestFirstOfMany(t *testing.T) {
	var l []api.Frame
	for id := range uint32(1 << 11) {
		l = append(l, api.Frame{ID: id ^ 0x2aa}, api.Frame{ID: id ^ 0x2aa, Remote: true})
	}
	if n, err := First(l); n != 2*0x2aa || err != api.OK {
		t.Errorf("%d %d", n, err)
	}
	if n, err := First(append(l, api.Frame{ID: 0x7ff, Remote: true, Len: 4})); n != 0 || err != api.ErrThere {
		t.Errorf("%d %d", n, err)
	}
}

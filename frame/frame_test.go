package frame

import (
	"math"
	"testing"

	"tramway/api"
)

// P2.1: which frames can be.
func TestCheck(t *testing.T) {
	for _, c := range []struct {
		f   api.Frame
		err api.Errno
	}{
		{api.Frame{}, api.OK},
		{api.Frame{ID: 1<<11 - 1}, api.OK},
		{api.Frame{ID: 1 << 11}, api.ErrArg},
		{api.Frame{ID: 1 << 29}, api.ErrArg},
		{api.Frame{ID: 1 << 11, Remote: true}, api.ErrArg},
		{api.Frame{ID: math.MaxUint32}, api.ErrArg},
		{api.Frame{ID: 1 << 11, Extended: true}, api.OK},
		{api.Frame{ID: 1<<29 - 1, Extended: true}, api.OK},
		{api.Frame{ID: 1 << 29, Extended: true}, api.ErrArg},
		{api.Frame{ID: 1 << 29, Extended: true, Remote: true}, api.ErrArg},
		{api.Frame{ID: math.MaxUint32, Extended: true}, api.ErrArg},
		{api.Frame{Len: 8}, api.OK},
		{api.Frame{Len: 9}, api.OK},
		{api.Frame{Len: 15}, api.OK},
		{api.Frame{Len: 15, Remote: true, Extended: true}, api.OK},
		{api.Frame{Len: 16}, api.ErrArg},
		{api.Frame{Len: 16, Remote: true}, api.ErrArg},
		{api.Frame{Len: -1}, api.ErrArg},
		{api.Frame{Len: -1, Remote: true}, api.ErrArg},
		{api.Frame{Len: math.MaxInt}, api.ErrArg},
		{api.Frame{Len: math.MinInt}, api.ErrArg},
		{api.Frame{Len: 0, Data: [8]byte{1, 2, 3}}, api.OK},
	} {
		if err := Check(c.f); err != c.err {
			t.Errorf("Check(%v): %d, want %d", c.f, err, c.err)
		}
		field, err := Field(c.f)
		if err != c.err || (field == "") != (err != api.OK) {
			t.Errorf("Field(%v): %q %d, want %d", c.f, field, err, c.err)
		}
		for _, ack := range []bool{false, true} {
			s, err := Encode(c.f, ack)
			if err != c.err || (s == "") != (err != api.OK) {
				t.Errorf("Encode(%v, %t): %q %d, want %d", c.f, ack, s, err, c.err)
			}
		}
	}
}

// P2.1: bytes that a frame has not are 0 in Plain, and all else stays, of frames that can't be, too.
func TestPlain(t *testing.T) {
	data := [8]byte{1, 2, 3, 4, 5, 6, 7, 8}
	for _, c := range []struct{ length, has int }{
		{math.MinInt, 0}, {-1, 0}, {0, 0}, {1, 1}, {2, 2}, {3, 3}, {4, 4}, {5, 5}, {6, 6}, {7, 7}, {8, 8}, {9, 8}, {15, 8}, {16, 8}, {math.MaxInt, 8},
	} {
		for _, extended := range []bool{false, true} {
			f := api.Frame{ID: 1 << 30, Extended: extended, Len: c.length, Data: data}
			want := f
			for i := c.has; i < 8; i++ {
				want.Data[i] = 0
			}
			if got := Plain(f); got != want {
				t.Errorf("Plain(%v): %v", f, got)
			}
			f.Remote = true
			want = f
			want.Data = [8]byte{}
			if got := Plain(f); got != want {
				t.Errorf("Plain(%v): %v", f, got)
			}
		}
	}
}

// P2.1: Same looks at all but bytes that a frame has not.
func TestSame(t *testing.T) {
	f := api.Frame{ID: 5, Len: 3, Data: [8]byte{1, 2, 3, 4}}
	r := api.Frame{ID: 5, Remote: true, Len: 3, Data: [8]byte{1}}
	for _, c := range []struct {
		a, b api.Frame
		same bool
	}{
		{f, f, true},
		{f, api.Frame{ID: 5, Len: 3, Data: [8]byte{1, 2, 3, 9, 9}}, true},
		{f, api.Frame{ID: 5, Len: 3, Data: [8]byte{1, 2, 9, 4}}, false},
		{f, api.Frame{ID: 5, Len: 4, Data: [8]byte{1, 2, 3, 4}}, false},
		{f, api.Frame{ID: 6, Len: 3, Data: [8]byte{1, 2, 3, 4}}, false},
		{f, api.Frame{ID: 5, Extended: true, Len: 3, Data: [8]byte{1, 2, 3, 4}}, false},
		{f, r, false},
		{r, api.Frame{ID: 5, Remote: true, Len: 3}, true},
		{r, api.Frame{ID: 5, Remote: true, Len: 4}, false},
		{api.Frame{Len: 8, Data: [8]byte{7: 1}}, api.Frame{Len: 8, Data: [8]byte{7: 2}}, false},
		{api.Frame{Len: 9, Data: [8]byte{7: 1}}, api.Frame{Len: 9, Data: [8]byte{7: 2}}, false},
		{api.Frame{Len: 8}, api.Frame{Len: 9}, false},
		{api.Frame{Len: -3, Data: [8]byte{1}}, api.Frame{Len: -3}, true},
		{api.Frame{Len: 99, Data: [8]byte{1}}, api.Frame{Len: 99}, false},
	} {
		if Same(c.a, c.b) != c.same || Same(c.b, c.a) != c.same {
			t.Errorf("Same(%v, %v) is not %t", c.a, c.b, c.same)
		}
	}
}

// P2.4: each n that there is, and those beyond.
func TestLongest(t *testing.T) {
	base := []int{34 + 8 + 10, 42 + 10 + 10, 50 + 12 + 10, 58 + 14 + 10, 66 + 16 + 10, 74 + 18 + 10, 82 + 20 + 10, 90 + 22 + 10, 98 + 24 + 10}
	extended := []int{54 + 13 + 10, 62 + 15 + 10, 70 + 17 + 10, 78 + 19 + 10, 86 + 21 + 10, 94 + 23 + 10, 102 + 25 + 10, 110 + 27 + 10, 118 + 29 + 10}
	for n := range 9 {
		if got, err := Longest(n, false); got != base[n] || err != api.OK {
			t.Errorf("Longest(%d, false): %d %d, want %d", n, got, err, base[n])
		}
		if got, err := Longest(n, true); got != extended[n] || err != api.OK {
			t.Errorf("Longest(%d, true): %d %d, want %d", n, got, err, extended[n])
		}
	}
	for _, n := range []int{-1, 9, 15, math.MinInt, math.MaxInt} {
		for _, extended := range []bool{false, true} {
			if got, err := Longest(n, extended); got != 0 || err != api.ErrArg {
				t.Errorf("Longest(%d, %t): %d %d", n, extended, got, err)
			}
		}
	}
}

package sdo

import (
	"testing"

	"tramway/api"
	"tramway/od"
)

// What a server does, ahead of a frame: nothing, it is written to, it is read.
var states = []struct {
	begin string
	doing int
}{
	{"", 0},
	{"20 00 30", 1},
	{"40 00 30", 2},
}

// inState is a desk whose server does that; its entry has bytes that are not told at once.
func inState(t *testing.T, begin string) *desk {
	t.Helper()
	k := deskOf(t, domain("0123456789"), api.Entry{Index: 0x2000, Sub: 1, Access: api.ReadWrite, Default: api.Value{Type: api.Uint16, N: 5}})
	if begin != "" {
		k.ask(hexed(begin))
	}
	return k
}

// P10.1: a server of nothing is none.
func TestNewOfNil(t *testing.T) {
	if s, err := New(nil); s != nil || err != api.ErrArg {
		t.Errorf("New(nil): %v %d", s, err)
	}
}

// P10.1: a new one does nothing; of a dictionary without entries, too.
func TestNewDoesNothing(t *testing.T) {
	for _, l := range [][]api.Entry{nil, {domain("a")}} {
		k := deskOf(t, l...)
		if k.serve.Doing() != 0 {
			t.Errorf("Doing: %d", k.serve.Doing())
		}
		k.expire()
	}
	k := deskOf(t)
	k.asks("40 00 30 00:80 00 30 00 00 00 02 06", "20 00 30 00:80 00 30 00 00 00 02 06", "23 00 30 00:80 00 30 00 00 00 02 06")
}

// P10.1: an abort's bytes.
func TestAbort(t *testing.T) {
	for _, x := range []struct {
		index uint16
		sub   uint8
		code  uint32
		want  [8]byte
	}{
		{0, 0, 0, [8]byte{0x80}},
		{0x1234, 0x56, 0x789abcde, [8]byte{0x80, 0x34, 0x12, 0x56, 0xde, 0xbc, 0x9a, 0x78}},
		{0xffff, 0xff, 0xffffffff, [8]byte{0x80, 255, 255, 255, 255, 255, 255, 255}},
		{0x2000, 1, api.NoSub, [8]byte{0x80, 0, 0x20, 1, 0x11, 0, 9, 6}},
		{1, 0, api.NoToggle, [8]byte{0x80, 1, 0, 0, 0, 0, 3, 5}},
		{0x100, 0, 1, [8]byte{0x80, 0, 1, 0, 1}},
		{0, 128, 0x80000000, [8]byte{0x80, 0, 0, 128, 0, 0, 0, 128}},
	} {
		if a := Abort(x.index, x.sub, x.code); a != x.want {
			t.Errorf("Abort(%x, %x, %x): % x, want % x", x.index, x.sub, x.code, a, x.want)
		}
	}
}

// P10.1: what it does behind each kind of frame.
func TestDoing(t *testing.T) {
	k := inState(t, "")
	for _, x := range []struct {
		q     string
		doing int
	}{
		{"40 00 20 01", 0}, // told at once
		{"40 00 30 00", 2},
		{"60", 2},
		{"70", 0}, // the last segment
		{"20 00 30 00", 1},
		{"00 41 42 43 44 45 46 47", 1},
		{"1d 48", 0}, // the last segment
		{"2b 00 20 01 07", 0},
		{"40 00 30 00", 2},
		{"20 00 30 00", 1},
		{"40 00 30 00", 2},
		{"40 00 20 01", 0},
		{"20 00 20 01", 1},
		{"2b 00 20 01 07", 0},
		{"40 00 30 00", 2},
		{"40 00 30 01", 0}, // refused
		{"20 00 30 00", 1},
		{"20 00 30 01", 0}, // refused
		{"40 00 30 00", 2},
		{"80", 0},
		{"20 00 30 00", 1},
		{"a0", 0},
	} {
		k.ask(hexed(x.q))
		if k.serve.Doing() != x.doing {
			t.Fatalf("%s: Doing %d, want %d", x.q, k.serve.Doing(), x.doing)
		}
	}
}

// P10.1: behind Reset it does nothing, whatever it did; and nothing is left of that.
func TestReset(t *testing.T) {
	for _, x := range states {
		for _, on := range []string{"", "00 41 42 43 44 45 46 47", "60"} {
			k := inState(t, x.begin)
			if on != "" {
				k.ask(hexed(on))
			}
			k.reset()
			if k.serve.Doing() != 0 {
				t.Fatalf("%q: Doing %d", x.begin, k.serve.Doing())
			}
			k.expire()
			k.asks("01:80 00 00 00 01 00 04 05", "60:80 00 00 00 01 00 04 05")
			k.asks("21 00 30 00 01:60 00 30", "0d 5a:20", "40 00 30:4f 00 30 00 5a")
		}
	}
}

// P10.2: an abort ends what goes on, and is not answered, whatever stands in it.
func TestAbortThatComes(t *testing.T) {
	for _, x := range states {
		for low := range 32 {
			k := inState(t, x.begin)
			a, is := k.serve.Handle([8]byte{byte(0x80 + low), 0, 0x30, 0, 1, 2, 3, 4})
			if a != [8]byte{} || is || k.serve.Doing() != 0 {
				t.Fatalf("%q, %x: % x %v %d", x.begin, 0x80+low, a, is, k.serve.Doing())
			}
			k.wantSame()
		}
	}
}

// P10.2: commands 5 to 7 are none: refused at the frame's own place, and they end what goes on.
func TestNoCommand(t *testing.T) {
	for _, x := range states {
		for first := 0xa0; first <= 0xff; first++ {
			k := inState(t, x.begin)
			a, is := k.serve.Handle([8]byte{byte(first), 7, 8, 9, 1, 2, 3, 4})
			if a != Abort(0x0807, 9, api.NoCommand) || !is || k.serve.Doing() != 0 {
				t.Fatalf("%q, %x: % x %v %d", x.begin, first, a, is, k.serve.Doing())
			}
			k.wantSame()
		}
	}
}

// P10.2: segments while nothing, or the other kind, goes on: refused at no place; what goes on goes on.
func TestSegmentOfTheOtherKind(t *testing.T) {
	refused := Abort(0, 0, api.NoCommand)
	for _, x := range states {
		for low := range 32 {
			for _, high := range []int{0x00, 0x60} {
				if x.doing == 1 && high == 0 || x.doing == 2 && high == 0x60 {
					continue
				}
				k := inState(t, x.begin)
				a, is := k.serve.Handle([8]byte{byte(high + low), 7, 8, 9, 1, 2, 3, 4})
				if a != refused || !is || k.serve.Doing() != x.doing {
					t.Fatalf("%q, %x: % x %v %d", x.begin, high+low, a, is, k.serve.Doing())
				}
				k.wantSame()
			}
		}
	}
	k := inState(t, "40 00 30")
	k.asks("60:00 30 31 32 33 34 35 36", "11 01:80 00 00 00 01 00 04 05", "70:19 37 38 39")
	k.asks("20 00 30:60 00 30", "00 31 32 33 34 35 36 37:20", "60:80 00 00 00 01 00 04 05", "1d 38:30")
	k.wantHas(0x3000, 0, "12345678")
}

// P10.3: Expire in all three.
func TestExpire(t *testing.T) {
	for _, x := range states {
		k := inState(t, x.begin)
		a, is := k.serve.Expire()
		switch {
		case x.doing == 0 && (a != [8]byte{} || is),
			x.doing != 0 && (a != [8]byte{0x80, 0, 0x30, 0, 0, 0, 4, 5} || !is),
			k.serve.Doing() != 0:
			t.Errorf("%q: % x %v %d", x.begin, a, is, k.serve.Doing())
		}
		if a, is := k.serve.Expire(); a != [8]byte{} || is {
			t.Errorf("%q, again: % x %v", x.begin, a, is)
		}
		k.wantSame()
	}
}

// P10.3: at the place of what goes on, behind segments too; not at one that was asked for since in vain.
func TestExpireTellsThePlace(t *testing.T) {
	k := deskOf(t, octets(0x1234, 0x56, api.ReadWrite, "123456789"), domain("0123456789"))
	for _, l := range [][]string{
		{"40 34 12 56"},
		{"40 34 12 56", "60", "01 01 02 03"},
		{"40 00 30 00", "40 34 12 56"},
		{"20 34 12 56"},
		{"21 34 12 56 09", "00", "10"},
		{"21 34 12 56 09", "00", "60 01 02 03"},
		{"20 00 30 00", "20 34 12 56"},
	} {
		for _, q := range l {
			k.ask(hexed(q))
		}
		if a, is := k.serve.Expire(); a != [8]byte{0x80, 0x34, 0x12, 0x56, 0, 0, 4, 5} || !is {
			t.Errorf("%q: % x %v", l, a, is)
		}
		k.clerk.list = nil
	}
}

// The chapter's example.
func TestExample(t *testing.T) {
	k := inState(t, "")
	k.asks("40 00 20 01:4b 00 20 01 05 00 00 00")
}

// A server without a dictionary, which New does not make, ends each call all the same.
func TestZeroServerDoesNotPanic(t *testing.T) {
	var s Server
	for first := range 256 {
		s.Handle([8]byte{byte(first), 0, 0x20, 1})
		s.Expire()
		s.Doing()
		s.Reset()
	}
	if s, err := New(&od.Dict{}); err == api.OK {
		for first := range 256 {
			s.Handle([8]byte{byte(first), 0, 0x20, 1})
		}
	}
}

// From arguments alone: two servers of one dictionary know nothing of one another but what it has.
func TestTwoServers(t *testing.T) {
	k := inState(t, "")
	other, err := New(k.dict)
	if err != api.OK {
		t.Fatal(err)
	}
	k.asks("20 00 30:60 00 30", "00 31 32 33 34 35 36 37:20")
	if other.Doing() != 0 {
		t.Errorf("Doing: %d", other.Doing())
	}
	if a, _ := other.Handle([8]byte{0x40, 0, 0x30}); a != [8]byte{0x41, 0, 0x30, 0, 10} {
		t.Errorf("% x", a)
	}
	k.asks("1d 38:30")
	for _, want := range [][8]byte{{0x00, '0', '1', '2', '3', '4', '5', '6'}, {0x19, '7', '8', '9'}} {
		if a, _ := other.Handle([8]byte{0x60 | want[0]&0x10}); a != want {
			t.Errorf("% x, want % x", a, want)
		}
	}
	k.asks("40 00 30:41 00 30 00 08")
	if other.Doing() != 0 || k.serve.Doing() != 2 {
		t.Errorf("Doing: %d %d", other.Doing(), k.serve.Doing())
	}
}

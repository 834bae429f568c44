package client

import (
	"strings"
	"testing"

	"tramway/api"
)

// P11.1: a new one asks nothing, and has no result.
func TestNew(t *testing.T) {
	c := New()
	if c == nil || c.Busy() {
		t.Fatal("busy, or none")
	}
	if b, code, has := c.Result(); len(b) != 0 || code != api.Fine || has {
		t.Errorf("Result: %x %x %v", b, code, has)
	}
	if q, is := c.Feed([8]byte{0x60}); q != [8]byte{} || is {
		t.Errorf("Feed: % x %v", q, is)
	}
	if q, is := c.Expire(); q != [8]byte{} || is {
		t.Errorf("Expire: % x %v", q, is)
	}
}

// P11.1: the first frames, told by hand, at places whose bytes all differ.
func TestFirstFrames(t *testing.T) {
	for _, x := range []struct {
		b, want string
	}{
		{"", "21 34 12 56 00"},
		{"A", "2f 34 12 56 41"},
		{"AB", "2b 34 12 56 41 42"},
		{"ABC", "27 34 12 56 41 42 43"},
		{"ABCD", "23 34 12 56 41 42 43 44"},
		{"ABCDE", "21 34 12 56 05"},
		{"ABCDEFG", "21 34 12 56 07"},
		{strings.Repeat("A", 255), "21 34 12 56 ff"},
		{strings.Repeat("A", 256), "21 34 12 56 00 01"},
		{strings.Repeat("A", 0x1234), "21 34 12 56 34 12"},
		{strings.Repeat("A", most-1), "21 34 12 56 ff ff"},
		{strings.Repeat("A", most), "21 34 12 56 00 00 01"},
	} {
		c := New()
		if q, err := c.Write(0x1234, 0x56, []byte(x.b)); string(q[:]) != hexed(x.want) || err != api.OK || !c.Busy() {
			t.Errorf("Write of %d: % x %d %v, want %s", len(x.b), q, err, c.Busy(), x.want)
		}
	}
	c := New()
	if q, err := c.Read(0x1234, 0x56); string(q[:]) != hexed("40 34 12 56") || err != api.OK || !c.Busy() {
		t.Errorf("Read: % x %d %v", q, err, c.Busy())
	}
	c = New()
	if q, err := c.Write(0x1234, 0x56, nil); string(q[:]) != hexed("21 34 12 56") || err != api.OK || !c.Busy() {
		t.Errorf("Write of nil: % x %d %v", q, err, c.Busy())
	}
}

// P11.1: places at their edges.
func TestPlaces(t *testing.T) {
	for _, index := range []uint16{0, 1, 0xff, 0x100, 0x2000, 0x8000, 0xffff} {
		for _, sub := range []uint8{0, 1, 127, 128, 255} {
			k := deskOf(t)
			k.read(index, sub)
			k.expire()
			for n := range 9 {
				k.write(index, sub, "12345678"[:n])
				k.feed(framed(0x60, placed(index, sub)))
				k.expire()
			}
		}
	}
}

// P11.1: more than MaxBytes are too many; a client that has a result has it still.
func TestTooManyBytes(t *testing.T) {
	for _, n := range []int{most + 1, most + 7, 2 * most} {
		b := make([]byte, n)
		c := New()
		if q, err := c.Write(1, 1, b); q != [8]byte{} || err != api.ErrLong || c.Busy() {
			t.Errorf("%d bytes: % x %d %v", n, q, err, c.Busy())
		}
		for i := range states {
			k := inState(t, i)
			if err := k.write(0x2000, 1, string(b)); err != api.ErrLong && !states[i].busy || err != api.ErrState && states[i].busy {
				t.Errorf("%s: %d", states[i].name, err)
			}
			k.result()
		}
	}
}

// P11.1: who is busy can't be asked; what goes on is not touched by it.
func TestBusyCantBeAsked(t *testing.T) {
	for i, x := range states {
		if !x.busy {
			continue
		}
		for _, ask := range []func(k *desk) api.Errno{
			func(k *desk) api.Errno { return k.read(0x2000, 1) },
			func(k *desk) api.Errno { return k.write(0x2000, 1, "") },
			func(k *desk) api.Errno { return k.write(0x2000, 1, "ab") },
			func(k *desk) api.Errno { return k.write(0x2000, 1, "other bytes") },
			func(k *desk) api.Errno { return k.write(0x2000, 1, strings.Repeat("A", most+1)) },
		} {
			k := inState(t, i)
			if err := ask(k); err != api.ErrState {
				t.Fatalf("%s: %d", x.name, err)
			}
			if a := k.expire(); a.frame != hexed("80 34 12 56 00 00 04 05") {
				t.Errorf("%s: % x", x.name, a.frame)
			}
		}
	}
	k := deskOf(t)
	k.write(0x3000, 0, "0123456789")
	k.feeds("60 00 30:00 30 31 32 33 34 35 36")
	k.read(0x2000, 1)
	k.write(0x2000, 1, "ab")
	k.feeds("20:19 37 38 39", "30")
	k.wantResult(api.Fine, "")
}

// P11.1: what is asked anew takes away the result that there was, but only if it is asked.
func TestAskedAnewHasNoResult(t *testing.T) {
	for i, x := range states {
		if x.busy {
			continue
		}
		for _, ask := range []func(k *desk) api.Errno{
			func(k *desk) api.Errno { return k.read(0x2000, 1) },
			func(k *desk) api.Errno { return k.write(0x2000, 1, "") },
			func(k *desk) api.Errno { return k.write(0x2000, 1, "ab") },
			func(k *desk) api.Errno { return k.write(0x2000, 1, "other bytes") },
		} {
			k := inState(t, i)
			if err := ask(k); err != api.OK || !k.c.Busy() {
				t.Fatalf("%s: %d", x.name, err)
			}
			if o := k.result(); o != (outcome{}) {
				t.Fatalf("%s: %v", x.name, o)
			}
			k.expire()
			k.wantResult(api.TimedOut, "")
		}
	}
}

// P11.3: Expire gives up whatever is asked, once; it does nothing else, and takes no result away.
func TestExpire(t *testing.T) {
	for i, x := range states {
		k := inState(t, i)
		a := k.expire()
		if x.busy && a != (said{hexed("80 34 12 56 00 00 04 05"), true}) || !x.busy && a != none {
			t.Errorf("%s: % x %v", x.name, a.frame, a.is)
		}
		if k.c.Busy() || k.expire() != none {
			t.Errorf("%s: busy still", x.name)
		}
		if x.busy {
			k.wantResult(api.TimedOut, "")
		}
		k.result()
	}
}

// P11.3: the result is told once, whatever came of it; while it is busy there is none.
func TestResult(t *testing.T) {
	wants := map[string]outcome{
		"written":          {"", api.Fine, true},
		"refused":          {"", 1, true},
		"told":             {"\x01\x02", api.Fine, true},
		"told in segments": {"12", api.Fine, true},
		"given up":         {"", api.NoCommand, true},
	}
	for i, x := range states {
		k := inState(t, i)
		if o := k.result(); o != wants[x.name] {
			t.Errorf("%s: %v, want %v", x.name, o, wants[x.name])
		}
		if o := k.result(); o != (outcome{}) {
			t.Errorf("%s, again: %v", x.name, o)
		}
		if k.c.Busy() != x.busy {
			t.Errorf("%s: Busy %v", x.name, k.c.Busy())
		}
	}
}

// P11.3: who asks for a result ahead of time changes nothing.
func TestResultAheadOfTime(t *testing.T) {
	k := deskOf(t)
	k.read(0x3000, 0)
	k.result()
	k.feeds("41 00 30 00 09:60")
	k.result()
	k.feeds("00 31 32 33 34 35 36 37:70")
	k.result()
	k.feeds("1b 38 39")
	k.wantResult(api.Fine, "123456789")
}

// The chapter's example.
func TestExample(t *testing.T) {
	if q, err := New().Write(0x2000, 1, []byte{5, 0}); q != [8]byte{0x2b, 0x00, 0x20, 0x01, 0x05, 0x00, 0x00, 0x00} || err != api.OK {
		t.Errorf("% x %d", q, err)
	}
}

// From arguments alone: two clients know nothing of one another.
func TestTwoClients(t *testing.T) {
	one, other := deskOf(t), deskOf(t)
	one.write(0x3000, 0, "0123456789")
	if other.c.Busy() {
		t.Error("busy")
	}
	other.read(0x3000, 0)
	one.feeds("60 00 30:00 30 31 32 33 34 35 36")
	other.feeds("41 00 30 00 08:60")
	one.feeds("20:19 37 38 39")
	other.feeds("00 61 62 63 64 65 66 67:70")
	one.feeds("30")
	other.feeds("1d 68")
	one.wantResult(api.Fine, "")
	other.wantResult(api.Fine, "abcdefgh")
}

// Memory: the bytes of a Write are neither changed nor kept, their spare room included; those of a Result are the caller's own.
func TestMemory(t *testing.T) {
	room := []byte("0123456789and what stands behind")
	k := deskOf(t)
	k.c.Write(0x3000, 0, room[:10])
	k.twin.begin(placed(0x3000, 0), writes(placed(0x3000, 0), "0123456789"))
	for i := range room {
		room[i] = 'x'
	}
	k.feeds("60 00 30:00 30 31 32 33 34 35 36", "20:19 37 38 39", "30")
	if string(room) != strings.Repeat("x", len(room)) {
		t.Errorf("changed: %q", room)
	}
	k.wantResult(api.Fine, "")

	var results [][]byte
	for range 3 {
		for _, l := range [][]string{
			{"41 00 30 00 08", "00 31 32 33 34 35 36 37", "1d 38"},
			{"43 00 30 00 31 32 33 34"},
			{"40 00 30", "00 31 32 33 34 35 36 37", "10 31 32 33 34 35 36 37", "0f"},
		} {
			k.read(0x3000, 0)
			for _, a := range l {
				k.feed(hexed(a))
			}
			want := k.twin.result().read
			b, _, _ := k.c.Result()
			if string(b) != want {
				t.Fatalf("%q, want %q", b, want)
			}
			for _, other := range results {
				scribble(other)
			}
			if string(b) != want {
				t.Fatalf("shared: %q, want %q", b, want)
			}
			scribble(b)
			results = append(results, b)
		}
	}
}

// scribble writes over a list and its spare room.
func scribble(b []byte) {
	b = b[:cap(b)]
	for i := range b {
		b[i] ^= 0xff
	}
}

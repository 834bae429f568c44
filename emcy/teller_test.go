package emcy

import (
	"math"
	"testing"

	"tramway/api"
)

// P16.1: what a teller is made of, and what not.
func TestNew(t *testing.T) {
	for history := 1; history <= 254; history++ {
		for _, inhibit := range []uint64{0, 1, far - 1, far} {
			d := deskOf(t, history, inhibit)
			d.wantHas(0, nil, nil)
			d.wantNoFrame()
		}
		for _, inhibit := range []uint64{far + 1, far + 2, 2 * far, 1 << 63, end} {
			wantNoTeller(t, history, inhibit)
		}
	}
	for _, history := range []int{math.MinInt, -1 << 32, -254, -2, -1, 0, 255, 256, 257, 1 << 16, 1 << 32, 1<<32 + 1, math.MaxInt} {
		for _, inhibit := range []uint64{0, 1, far, far + 1, end} {
			wantNoTeller(t, history, inhibit)
		}
	}
}

func wantNoTeller(t *testing.T, history int, inhibit uint64) {
	t.Helper()
	if s, err := New(history, inhibit); s != nil || err != errArg {
		t.Fatalf("New(%d, %d): %v %d", history, inhibit, s, err)
	}
}

// P16.2: the document's example.
func TestExample(t *testing.T) {
	d := deskOf(t, 1, 0)
	d.wantRaise(trouble(0x3210, 4, 1, 2, 3, 4, 5), true)
	d.wantFrame(0x10, 0x32, 5, 1, 2, 3, 4, 5)
	d.wantNoFrame()
}

// P16.1, P16.2: a new teller has nothing to clear, to tell or to forget.
func TestNothing(t *testing.T) {
	d := deskOf(t, 3, 2)
	d.forget()
	d.wantClear(0, false)
	d.wantClear(0x1000, false)
	for range 4 {
		d.wantTick(false)
	}
	d.wantNoFrame()
	d.wantHas(0, nil, nil)
}

// P16.2: of all codes just those with a high byte may be; each is told and cleared by its own two bytes.
func TestEachCode(t *testing.T) {
	for n := range 1 << 16 {
		code := uint16(n)
		d := deskOf(t, 1, 0)
		is := n >= 256
		d.wantRaise(trouble(code, 0, 9), is)
		d.wantClear(code^1, false)
		d.wantClear(code^0x100, false)
		if is {
			d.wantHas(1, []api.Trouble{trouble(code, 0, 9)}, []api.Trouble{trouble(code, 0, 9)})
			d.wantFrame(byte(n), byte(n/256), 1, 9)
		}
		d.wantClear(code, is)
		if is {
			d.wantFrame()
			d.wantHas(0, nil, []api.Trouble{trouble(code, 0, 9)})
		}
		d.wantNoFrame()
	}
}

// P16.2: what is refused changes nothing, though it comes with another register and other bytes.
func TestRefused(t *testing.T) {
	d := deskOf(t, 4, 0)
	x := trouble(0x1000, 2, 1)
	d.wantRaise(x, true)
	for _, y := range []api.Trouble{x, trouble(0x1000, 0xff, 7), trouble(0, 0xff, 7), trouble(1, 0xff), trouble(0xff, 0xff), trouble(0x10, 4)} {
		d.wantRaise(y, false)
		d.wantClear(y.Code^0x8000, false)
		d.wantHas(3, []api.Trouble{x}, []api.Trouble{x})
	}
	d.wantFrame(0, 0x10, 3, 1)
	d.wantNoFrame()
	d.wantClear(0x1000, true)
	d.wantClear(0x1000, false)
	d.wantFrame()
	d.wantNoFrame()
}

// P16.1: each register, by itself and beside another one; its bit 0 plays no part.
func TestEachRegister(t *testing.T) {
	for a := range 256 {
		for b := range 256 {
			d := deskOf(t, 1, 0)
			d.raise(trouble(0x100, uint8(a)))
			d.raise(trouble(0x200, uint8(b)))
			d.wantFrame(0, 1, uint8(a)|1)
			d.wantFrame(0, 2, uint8(a|b)|1)
			d.clear(0x100)
			d.wantFrame(0, 2, uint8(b)|1)
			d.clear(0x200)
			d.wantFrame(0, 0, 0)
		}
	}
}

// P16.1, P16.2: a bit that two errors have stays till both are gone, and the errors are as they were raised.
func TestRegisterStays(t *testing.T) {
	d := deskOf(t, 9, 0)
	a, b, c := trouble(0x1001, 0x12), trouble(0x2002, 0x13), trouble(0x3003, 0x40)
	d.wantRaise(a, true)
	d.wantRaise(b, true)
	d.wantRaise(c, true)
	d.wantHas(0x53, []api.Trouble{a, b, c}, []api.Trouble{c, b, a})
	d.wantClear(0x1001, true)
	d.wantHas(0x53, []api.Trouble{b, c}, []api.Trouble{c, b, a})
	d.wantClear(0x2002, true)
	d.wantHas(0x41, []api.Trouble{c}, []api.Trouble{c, b, a})
	d.wantClear(0x3003, true)
	d.wantHas(0, nil, []api.Trouble{c, b, a})
}

// P16.2: a frame has the register of when it began to wait, not of when it is told.
func TestRegisterThen(t *testing.T) {
	d := deskOf(t, 9, 0)
	d.raise(trouble(0x1001, 2, 1))
	d.raise(trouble(0x2002, 4, 2))
	d.clear(0x1001)
	d.clear(0x2002)
	d.wantFrame(1, 0x10, 3, 1)
	d.wantFrame(2, 0x20, 7, 2)
	d.wantFrame(2, 0x20, 5)
	d.wantFrame()
	d.wantNoFrame()
}

// P16.2: Clear tells the one that is there longest, whatever its code is and whichever was cleared; one that was raised again is there since then.
func TestLongest(t *testing.T) {
	d := deskOf(t, 9, 0)
	for _, high := range []byte{0x30, 0x10, 0x20} {
		d.raise(trouble(uint16(high)*256, 0, 5))
		d.wantFrame(0, high, 1, 5)
	}
	d.wantClear(0x2000, true)
	d.wantFrame(0, 0x30, 1)
	d.wantRaise(trouble(0x2000, 0), true)
	d.wantFrame(0, 0x20, 1)
	d.wantClear(0x3000, true)
	d.wantFrame(0, 0x10, 1)
	d.wantRaise(trouble(0x3000, 8), true)
	d.wantFrame(0, 0x30, 9)
	d.wantClear(0x1000, true)
	d.wantFrame(0, 0x20, 9)
	wantList(t, "Now", d.s.Now(), []api.Trouble{trouble(0x2000, 0), trouble(0x3000, 8)})
	d.wantClear(0x2000, true)
	d.wantFrame(0, 0x30, 9)
	d.wantClear(0x3000, true)
	d.wantFrame()
}

// P16.1, P16.6: of each length the history has the last ones, and the others fall out.
func TestHistory(t *testing.T) {
	for _, history := range []int{1, 2, 3, 10, 253, 254} {
		d := deskOf(t, history, 0)
		var all []api.Trouble
		for i := range history + 3 {
			x := trouble(uint16(0x1000+i), 0, byte(i))
			d.raise(x)
			all = append([]api.Trouble{x}, all...)
			wantList(t, "History", d.s.History(), all[:min(len(all), history)])
		}
		d.same()
		d.clear(0x1000)
		d.clear(0x1001)
		d.same()
		d.wantRaise(trouble(0x1000, 1), true)
		if l := d.s.History(); len(l) != history || l[0] != trouble(0x1000, 1) {
			t.Fatalf("history of %d: %d, first %v", history, len(l), l[0])
		}
	}
}

// P16.6: one that was raised twice stands there twice.
func TestRaisedTwice(t *testing.T) {
	d := deskOf(t, 3, 0)
	for i := range byte(4) {
		d.raise(trouble(0x1000, i))
		d.clear(0x1000)
	}
	d.wantHas(0, nil, []api.Trouble{trouble(0x1000, 3), trouble(0x1000, 2), trouble(0x1000, 1)})
}

// P16.1: Forget empties the history alone: the errors, the register and the frames are there still.
func TestForget(t *testing.T) {
	d := deskOf(t, 2, 3)
	d.raise(trouble(0x1000, 2))
	d.raise(trouble(0x2000, 4))
	d.raise(trouble(0x3000, 0))
	d.wantFrame(0, 0x10, 3)
	d.forget()
	now := []api.Trouble{trouble(0x1000, 2), trouble(0x2000, 4), trouble(0x3000, 0)}
	d.wantHas(7, now, nil)
	d.forget()
	d.wantRaise(trouble(0x1000, 2), false)
	d.wantHas(7, now, nil)
	d.wantNoFrame()
	d.wantTick(false)
	d.wantTick(false)
	d.wantTick(true)
	d.wantFrame(0, 0x20, 7)
	d.wantClear(0x1000, true)
	d.wantHas(5, now[1:], nil)
	d.wantRaise(trouble(0x1000, 8), true)
	d.wantHas(13, append(now[1:], trouble(0x1000, 8)), []api.Trouble{trouble(0x1000, 8)})
}

// P16.2: just 16 frames wait; the further ones are lost, but not what they would tell.
func TestLostFrames(t *testing.T) {
	d := deskOf(t, 254, 0)
	for i := range uint16(20) {
		d.wantRaise(trouble(0x1000+i, 0, byte(i)), true)
	}
	d.wantClear(0x1000, true)
	if n := len(d.s.Now()); n != 19 || len(d.s.History()) != 20 {
		t.Fatalf("%d are there", n)
	}
	for i := range byte(16) {
		d.wantFrame(i, 0x10, 1, i)
	}
	d.wantNoFrame()
	d.wantTick(false)
	d.wantClear(0x1002, true)
	d.wantFrame(1, 0x10, 1)
	d.wantNoFrame()
}

// P16.2: with 15 there is room for just one, of a Clear too; once one was told, for one more.
func TestRoomForOne(t *testing.T) {
	for _, ahead := range []int{14, 15, 16, 17} {
		d := deskOf(t, 254, 0)
		for i := range ahead {
			d.raise(trouble(0x2000+uint16(i), 0))
		}
		d.clear(0x2000)
		d.raise(trouble(0x4000, 0x80))
		d.clear(0x2001)
		d.frame()
		d.raise(trouble(0x5000, 0x40))
		d.clear(0x5000)
		n := 1
		for d.s.Tick() {
			d.k.tick()
			d.frame()
			n++
		}
		if n != 17 {
			t.Fatalf("%d were told", n)
		}
		d.same()
	}
}

// P16.3: one that is quiet tells nothing till so many ticks went by, just then.
func TestQuiet(t *testing.T) {
	for _, inhibit := range []uint64{1, 2, 3, 10, 1000} {
		d := deskOf(t, 5, inhibit)
		for i := range uint16(4) {
			d.raise(trouble(0x1000+i, 0))
		}
		for i := range byte(3) {
			d.wantFrame(i, 0x10, 1)
			for range inhibit - 1 {
				d.wantNoFrame()
				d.wantTick(false)
			}
			d.wantNoFrame()
			d.wantTick(true)
			d.wantTick(true)
		}
		d.wantFrame(3, 0x10, 1)
		for range inhibit + 2 {
			d.wantTick(false)
		}
		d.wantRaise(trouble(0x2000, 0), true)
		d.wantFrame(0, 0x20, 1)
	}
}

// P16.3: ticks ahead of a frame don't count for it, nor does an ask for a frame that is not told.
func TestTicksAhead(t *testing.T) {
	d := deskOf(t, 5, 3)
	for range 10 {
		d.wantTick(false)
		d.wantNoFrame()
	}
	d.raise(trouble(0x1000, 0))
	d.wantTick(true)
	d.wantFrame(0, 0x10, 1)
	d.wantTick(false)
	d.wantTick(false)
	d.raise(trouble(0x2000, 0))
	d.wantNoFrame()
	d.wantTick(true)
	d.wantFrame(0, 0x20, 1)
}

// P16.3: with no ticks to be quiet all are told one behind the other.
func TestNeverQuiet(t *testing.T) {
	d := deskOf(t, 5, 0)
	for i := range uint16(16) {
		d.raise(trouble(0x1000+i, 0))
	}
	d.wantTick(true)
	for i := range byte(16) {
		d.wantFrame(i, 0x10, 1)
		d.wantTick(i < 15)
	}
	d.wantNoFrame()
}

// P16.3: the longest times: the ticks between are taken from its count at once.
func TestLongestQuiet(t *testing.T) {
	for _, inhibit := range []uint64{far - 1, far} {
		s, _ := New(1, inhibit)
		s.Raise(trouble(0x1000, 0))
		s.Clear(0x1000)
		s.Frame()
		s.Tick()
		s.quiet -= inhibit - 3
		if _, is := s.Frame(); is || s.Tick() {
			t.Fatal("told one early")
		}
		if _, is := s.Frame(); is || !s.Tick() {
			t.Fatal("not told when due")
		}
		if b, is := s.Frame(); b != [8]byte{} || !is {
			t.Fatalf("Frame: %x %v", b, is)
		}
	}
}

// P16.3: what a frame tells, each byte in its place.
func TestRead(t *testing.T) {
	for _, x := range []struct {
		b    [8]byte
		want api.Trouble
	}{
		{[8]byte{}, api.Trouble{}},
		{[8]byte{0x10, 0x32, 5, 1, 2, 3, 4, 5}, trouble(0x3210, 5, 1, 2, 3, 4, 5)},
		{[8]byte{0xff}, trouble(0xff, 0)},
		{[8]byte{0, 0xff}, trouble(0xff00, 0)},
		{[8]byte{0, 0, 0xfe}, trouble(0, 0xfe)},
		{[8]byte{0, 0, 0, 255, 254, 253, 252, 251}, trouble(0, 0, 255, 254, 253, 252, 251)},
		{[8]byte{255, 255, 255, 255, 255, 255, 255, 255}, trouble(0xffff, 255, 255, 255, 255, 255, 255)},
	} {
		if is := Read(x.b); is != x.want {
			t.Errorf("Read(%x): %x, want %x", x.b, is, x.want)
		}
	}
	for place := range 8 {
		for n := range 256 {
			b := [8]byte{}
			b[place] = byte(n)
			x := Read(b)
			back := [8]byte{byte(x.Code), byte(x.Code >> 8), x.Register, x.Extra[0], x.Extra[1], x.Extra[2], x.Extra[3], x.Extra[4]}
			if back != b {
				t.Fatalf("Read(%x): %x", b, x)
			}
		}
	}
}

// The rule on memory: an answer is the caller's own, its spare room too.
func TestAnswersAreNew(t *testing.T) {
	d := deskOf(t, 5, 0)
	for i := range uint16(12) {
		d.raise(trouble(0x1000+i, uint8(i)))
		d.clear(0x1000 + i/2)
		now, past := d.s.Now(), d.s.History()
		again, before := d.s.Now(), d.s.History()
		spoil(now)
		wantList(t, "History", past, d.k.past())
		spoil(past)
		wantList(t, "Now, asked twice,", again, d.k.now())
		wantList(t, "History, asked twice,", before, d.k.past())
		d.same()
		d.forget()
		spoil(d.s.History())
		d.same()
	}
	for d.s.Tick() {
		d.frame()
	}
}

// The rule on memory: what was answered stays as it was, whatever comes behind it.
func TestAnswersStay(t *testing.T) {
	d := deskOf(t, 3, 0)
	for i := range uint16(5) {
		d.raise(trouble(0x1000+i, 0))
	}
	now, past := d.s.Now(), d.s.History()
	d.clear(0x1000)
	d.clear(0x1003)
	d.forget()
	for i := range uint16(5) {
		d.raise(trouble(0x2000+i, 0))
	}
	wantList(t, "Now", now, codes(0x1000, 0x1001, 0x1002, 0x1003, 0x1004))
	wantList(t, "History", past, codes(0x1004, 0x1003, 0x1002))
	d.same()
}

// The rule on objects: two tellers know nothing of one another.
func TestTwoTellers(t *testing.T) {
	a, b := deskOf(t, 2, 3), deskOf(t, 2, 3)
	a.wantRaise(trouble(0x1000, 2), true)
	b.wantHas(0, nil, nil)
	b.wantNoFrame()
	b.wantRaise(trouble(0x1000, 4), true)
	a.wantFrame(0, 0x10, 3)
	b.wantFrame(0, 0x10, 5)
	a.wantClear(0x1000, true)
	b.wantHas(5, []api.Trouble{trouble(0x1000, 4)}, []api.Trouble{trouble(0x1000, 4)})
}

// The rule on ends: a teller that New did not make ends, too.
func TestZeroValue(t *testing.T) {
	var s Teller
	for range 20 {
		s.Raise(trouble(0x1000, 1))
		s.Raise(trouble(0x2000, 1))
		s.Now()
		s.History()
		s.Clear(0x1000)
		s.Tick()
		s.Frame()
		s.Forget()
		s.Register()
	}
}

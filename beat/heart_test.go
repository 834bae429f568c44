package beat

import (
	"testing"
)

// P18.1: how many ticks may lie between beats.
func TestHeartTicks(t *testing.T) {
	for _, ticks := range []uint64{0, 1, 2, 1000, most - 1, most} {
		heartOf(t, ticks)
	}
	for _, ticks := range badTicks {
		if h, err := NewHeart(ticks); h != nil || err != errArg {
			t.Errorf("NewHeart(%d): %v %d", ticks, h, err)
		}
	}
}

// P18.1: it beats each so many ticks, the first time behind so many.
func TestHeartBeats(t *testing.T) {
	for ticks := range uint64(20) {
		d := heartOf(t, ticks)
		for i := range uint64(200) {
			is := d.tick(run)
			if want := ticks != 0 && (i+1)%ticks == 0; is != want {
				t.Fatalf("%d: tick %d: %v", ticks, i+1, is)
			}
		}
	}
}

// P18.1: 0 is never, though many ticks go by.
func TestHeartNever(t *testing.T) {
	h, _ := NewHeart(0)
	for range 100000 {
		if b, is := h.Tick(run); b != nil || is {
			t.Fatal(b, is)
		}
	}
}

// P18.1: the byte is the state; in another one it beats silently, and keeps its time.
func TestHeartStates(t *testing.T) {
	for _, state := range states {
		d := heartOf(t, 1)
		if b, is := d.h.Tick(state); len(b) != 1 || int(b[0]) != state || !is {
			t.Errorf("Tick(%d): %x %v", state, b, is)
		}
	}
	for state := range 300 {
		d := heartOf(t, 2)
		for range 3 {
			d.tick(state)
		}
		if !d.tick(stop) {
			t.Errorf("behind %d no beat", state)
		}
	}
	for _, state := range badStates {
		d := heartOf(t, 3)
		for i := range 12 {
			if d.tick(state) {
				t.Fatalf("Tick(%d) beats", state)
			}
			if i%3 == 2 {
				d.tick(run)
				d.tick(run)
				if !d.tick(ready) {
					t.Fatalf("behind %d no beat", state)
				}
			}
		}
	}
}

// P18.1: whether there is a beat hangs on the state of its own tick alone, not on those between.
func TestHeartBetween(t *testing.T) {
	d := heartOf(t, 3)
	d.tick(boot)
	d.tick(run)
	if !d.tick(stop) {
		t.Error("no beat")
	}
	d.tick(run)
	d.tick(run)
	if d.tick(boot) {
		t.Error("a beat in Boot")
	}
	if d.tick(run) {
		t.Error("a beat behind a silent one")
	}
}

// P18.1: Set counts from now on, the same ticks too; a wrong one changes nothing.
func TestHeartSet(t *testing.T) {
	for before := range uint64(6) {
		for after := range uint64(6) {
			for gone := range 12 {
				d := heartOf(t, before)
				for range gone {
					d.tick(run)
				}
				d.set(after)
				for i := range uint64(20) {
					is := d.tick(run)
					if want := after != 0 && (i+1)%after == 0; is != want {
						t.Fatalf("%d behind %d of %d: tick %d: %v", after, gone, before, i+1, is)
					}
				}
			}
		}
	}
	for _, ticks := range badTicks {
		d := heartOf(t, 3)
		d.tick(run)
		d.set(ticks)
		d.tick(run)
		d.set(ticks)
		if !d.tick(run) {
			t.Errorf("Set(%d) changed something", ticks)
		}
	}
}

// P18.1: the most ticks are counted whole; so that a test ends, it is told that most of them went by.
func TestHeartMost(t *testing.T) {
	for _, ticks := range []uint64{most - 1, most} {
		h, _ := NewHeart(1)
		if err := h.Set(ticks); err != ok {
			t.Fatalf("Set(%d): %d", ticks, err)
		}
		for range 1000 {
			if _, is := h.Tick(run); is {
				t.Fatalf("%d: it beats too early", ticks)
			}
		}
		h.gone = ticks - 2
		if _, is := h.Tick(run); is {
			t.Fatalf("%d: it beats too early", ticks)
		}
		if b, is := h.Tick(run); string(b) != "\x05" || !is {
			t.Fatalf("%d: %x %v", ticks, b, is)
		}
		if _, is := h.Tick(run); is {
			t.Fatalf("%d: it beats twice", ticks)
		}
	}
}

// P18.1: long runs of hearts against their pulses.
func TestHeartRuns(t *testing.T) {
	r := dice(181)
	for range 500 {
		d := heartOf(t, uint64(r.below(5)))
		for range 300 {
			switch n := r.below(20); n {
			case 0:
				d.set(uint64(r.below(7)))
			case 1:
				d.set(most + 1 + r.next()>>1)
			case 2:
				d.tick(badStates[r.below(len(badStates))])
			case 3:
				d.tick(boot)
			default:
				d.tick(int(r.state()))
			}
		}
	}
}

// Memory: what it tells is new each time; two hearts know nothing of one another.
func TestHeartMemory(t *testing.T) {
	a, b := heartOf(t, 1), heartOf(t, 2)
	x, _ := a.h.Tick(run)
	for i := range x[:cap(x)] {
		x[:cap(x)][i] = 99
	}
	y, _ := a.h.Tick(run)
	if string(y) != "\x05" {
		t.Errorf("%x", y)
	}
	y[0] = 98
	if x[0] != 99 {
		t.Error("two answers share their memory")
	}
	if b.tick(run) || !b.tick(run) {
		t.Error("another heart's ticks count")
	}
}

// Ends: what the zero value answers is open, but it answers.
func TestHeartZero(t *testing.T) {
	var h Heart
	h.Tick(run)
	h.Set(3)
	h.Tick(run)
}

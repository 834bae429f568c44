package lss

import (
	"slices"
	"testing"
)

// Example 1: 4 1, 17 5, 4 0: it uses 5.
func TestExample(t *testing.T) {
	d := deskOf(t, own, 0)
	d.wantTake(toSet)
	d.wantTake([8]byte{17, 5}, 17)
	d.wantID(5, 0)
	d.wantTake(toWait)
	d.wantID(5, 5)
}

// P19.1: which numbers a slave may have at first, and what it is then.
func TestNew(t *testing.T) {
	for id := range 128 {
		d := deskOf(t, own, id)
		d.wantMode(0)
		d.wantID(id, id)
		d.wantRate(0, 0)
		d.wantStored(0, 0, false)
	}
	for _, id := range badNumbers {
		if s, err := New(own, id); s != nil || err != errArg {
			t.Errorf("New(%d): %v %d", id, s, err)
		}
	}
	for _, a := range [][4]uint32{{}, {1, 2, 3, 4}, {0xffffffff, 0xffffffff, 0xffffffff, 0xffffffff}, own} {
		d := deskOf(t, a, 0)
		d.take(toSet)
		for k := range 4 {
			q := frame(90+byte(k), a[k])
			d.wantTake([8]byte{90 + byte(k)}, q[:]...)
		}
	}
}

// P19.2: 4: its modes, and the number that it uses from then on.
func TestSetMode(t *testing.T) {
	d := deskOf(t, own, 0)
	for _, x := range []struct {
		b    byte
		want int
	}{{0, 0}, {1, 1}, {1, 1}, {0, 0}, {0, 0}, {2, 0}, {1, 1}, {2, 1}, {0, 0}} {
		d.wantTake([8]byte{4, x.b})
		d.wantMode(x.want)
	}
	for b := 2; b < 256; b++ {
		for mode := range 2 {
			d := deskOf(t, own, 0)
			d.take(toSet, [8]byte{17, 5}, [8]byte{4, byte(mode)})
			d.wantTake([8]byte{4, byte(b)})
			d.wantMode(mode)
			d.wantID(5, 5-5*mode)
		}
	}
	d = deskOf(t, own, 9)
	d.take(toSet, [8]byte{17, 5}, toWait)
	d.wantID(5, 9)
	d.take(toSet, [8]byte{17, 255}, toWait)
	d.wantID(0, 9)
	d.restart()
	d.wantID(0, 0)
	d.take(toSet, [8]byte{17, 7}, toSet)
	d.wantID(7, 0)
	d.take(toWait)
	d.wantID(7, 7)
}

// P19.2: 64 to 67 with its own parts: each but the last one quietly.
func TestSelect(t *testing.T) {
	for _, a := range [][4]uint32{own, {}, {1, 1, 1, 1}, {0xffffffff, 0xffffffff, 0xffffffff, 0xffffffff}} {
		for _, id := range []int{0, 5} {
			d := deskOf(t, a, id)
			for k := range 3 {
				d.wantTake(frame(64+byte(k), a[k]))
				d.wantMode(0)
			}
			d.wantTake(frame(67, a[3]), 68)
			d.wantMode(1)
			d.wantID(id, id)
		}
	}
}

// P19.2: a part that differs in any bit is not its own, and forgets all: those behind it do not help, nor itself once more.
func TestSelectOthers(t *testing.T) {
	for part := range 4 {
		for bit := range 32 {
			other := frame(64+byte(part), own[part]^1<<bit)
			d := deskOf(t, own, 0)
			d.take(selecting[:part]...)
			d.wantTake(other)
			for _, q := range selecting[part+1:] {
				d.wantTake(q)
			}
			d.wantMode(0)
			d.take(selecting[:part]...)
			d.take(other)
			for _, q := range selecting[max(part, 1):] {
				d.wantTake(q)
			}
			d.wantMode(0)
			d.take(selecting[:]...)
			d.wantMode(1)
		}
	}
}

// P19.2: each row of up to six of 64 to 67 with its own parts: only just these four in turn, one by one, count.
func TestSelectTurns(t *testing.T) {
	for long := 1; long <= 6; long++ {
		for n := range 1 << (2 * long) {
			s, _ := New(own, 0)
			var row []int
			for i := range long {
				k := n >> (2 * i) & 3
				row = append(row, k)
				want := len(row) >= 4 && slices.Equal(row[len(row)-4:], []int{0, 1, 2, 3})
				a, is := s.Take(selecting[k])
				if is != want || is && a != [8]byte{68} || !is && a != [8]byte{} || (s.Mode() == 1) != want {
					t.Fatalf("%v: %v %v", row, a, is)
				}
				if want {
					s.Take(toWait)
				}
			}
		}
	}
}

// P19.2: what is between them does not matter, unless it is one of them; in mode 1 they do nothing.
func TestSelectBetween(t *testing.T) {
	for at := 1; at < 4; at++ {
		for _, between := range [][][8]byte{{who}, {scanAnew}, {{17, 5}}, {{90}}, {{4, 2}}, {{63}, {68}, {0}}, {toWait}, {toSet, toWait}, {toSet, {64}, selecting[0], selecting[3], toWait}} {
			d := deskOf(t, own, 0)
			d.take(selecting[:at]...)
			d.take(between...)
			for _, q := range selecting[at:3] {
				d.wantTake(q)
			}
			d.wantTake(selecting[3], 68)
		}
		d := deskOf(t, own, 0)
		d.take(selecting[:at]...)
		d.restart()
		for _, q := range selecting[at:] {
			d.wantTake(q)
		}
		d.wantMode(0)
	}
	d := deskOf(t, own, 0)
	d.take(toSet)
	for _, q := range selecting {
		d.wantTake(q)
	}
	d.take(toWait)
	d.wantTake(selecting[3])
	d.wantMode(0)
}

// P19.2: 17: each number.
func TestSetID(t *testing.T) {
	for _, before := range []int{0, 9} {
		for b := range 256 {
			d := deskOf(t, own, before)
			d.take(toSet)
			switch {
			case b == 255:
				d.wantTake([8]byte{17, 255}, 17)
				d.wantID(0, before)
			case b >= 1 && b <= 127:
				d.wantTake([8]byte{17, byte(b)}, 17)
				d.wantID(b, before)
			default:
				d.wantTake([8]byte{17, byte(b)}, 17, 1)
				d.wantID(before, before)
			}
		}
	}
}

// P19.2: 19: each table, and each rate.
func TestSetRate(t *testing.T) {
	for table := range 256 {
		for rate := range 256 {
			s, _ := New(own, 0)
			s.Take(toSet)
			s.Take([8]byte{19, 0, 2})
			good := table == 0 && rate <= 8 && rate != 5
			want, pending := [8]byte{19, 1}, 2
			if good {
				want, pending = [8]byte{19}, rate
			}
			a, is := s.Take([8]byte{19, byte(table), byte(rate)})
			if p, u := s.Rate(); a != want || !is || p != pending || u != 0 {
				t.Fatalf("19 %d %d: %v %v, %d %d", table, rate, a, is, p, u)
			}
		}
	}
}

// P19.2: 21: the pending rate is used, without an answer; till then it is not.
func TestUseRate(t *testing.T) {
	d := deskOf(t, own, 0)
	d.take(toSet, [8]byte{19, 0, 3})
	d.wantRate(3, 0)
	d.take(toWait)
	d.wantTake(useRates)
	d.wantRate(3, 0)
	d.take(toSet)
	d.wantTake(useRates)
	d.wantRate(3, 3)
	d.take([8]byte{19, 0, 0})
	d.wantRate(0, 3)
	d.wantTake(useRates)
	d.wantRate(0, 0)
}

// P19.1, P19.2: 23: what is pending is stored, and is there behind a Restart; a rate without that is as it was.
func TestStore(t *testing.T) {
	d := deskOf(t, own, 9)
	d.take(toSet, [8]byte{17, 5}, [8]byte{19, 0, 3})
	d.wantTake(keep, 23)
	d.wantStored(5, 3, true)
	d.wantID(5, 9)
	d.wantRate(3, 0)
	d.take([8]byte{17, 6}, [8]byte{19, 0, 4})
	d.wantStored(5, 3, true)
	d.restart()
	d.wantMode(0)
	d.wantID(5, 5)
	d.wantRate(3, 3)
	d.take(toSet, [8]byte{17, 255}, [8]byte{19, 0, 0}, keep)
	d.wantStored(0, 0, true)
	d.restart()
	d.wantID(0, 0)
	d.wantRate(0, 0)
	d.wantStored(0, 0, true)
}

// P19.1, P19.2, P19.5: a store that fails tells it, and changes nothing of what is stored; it fails till it is told not to.
func TestStoreFails(t *testing.T) {
	d := deskOf(t, own, 0)
	d.store(true)
	d.take(toSet, [8]byte{17, 5}, [8]byte{19, 0, 3})
	d.wantTake(keep, 23, 2)
	d.wantStored(0, 0, false)
	d.restart()
	d.wantID(5, 5)
	d.wantRate(3, 0)
	d.take(toSet)
	d.wantTake(keep, 23, 2)
	d.store(false)
	d.wantTake(keep, 23)
	d.store(true)
	d.store(true)
	d.take([8]byte{17, 6}, [8]byte{19, 0, 4})
	d.wantTake(keep, 23, 2)
	d.wantStored(5, 3, true)
	d.restart()
	d.wantID(5, 5)
	d.wantRate(3, 3)
}

// P19.1: Restart: it waits, and what is pending is used, be it none.
func TestRestart(t *testing.T) {
	d := deskOf(t, own, 9)
	d.restart()
	d.wantID(9, 9)
	d.take(toSet, [8]byte{17, 5}, [8]byte{19, 0, 3}, useRates, [8]byte{19, 0, 4})
	d.restart()
	d.wantMode(0)
	d.wantID(5, 5)
	d.wantRate(4, 3)
	d.take(toSet, [8]byte{17, 255})
	d.restart()
	d.wantID(0, 0)
	d.wantStored(0, 0, false)
}

// P19.2: 90 to 94: its address, and the number that it uses, not the pending one.
func TestAskedFor(t *testing.T) {
	d := deskOf(t, own, 0)
	d.take(toSet)
	d.wantTake([8]byte{90}, 90, 1, 2, 3, 4)
	d.wantTake([8]byte{91}, 91, 0x11, 0x12, 0x13, 0x14)
	d.wantTake([8]byte{92}, 92, 0xa1, 0xa2, 0xa3, 0xa4)
	d.wantTake([8]byte{93}, 93, 0xf1, 0xf2, 0xf3, 0xf4)
	d.wantTake([8]byte{94}, 94, 255)
	d.take([8]byte{17, 5})
	d.wantTake([8]byte{94}, 94, 255)
	d.take(toWait, toSet)
	d.wantTake([8]byte{94}, 94, 5)
	d.take([8]byte{17, 6})
	d.wantTake([8]byte{94}, 94, 5)
	for id := 1; id < 128; id++ {
		d := deskOf(t, own, id)
		d.take(toSet)
		d.wantTake([8]byte{94}, 94, byte(id))
	}
}

// P19.2: 76: who has no number, used or pending, tells it, in both modes.
func TestAskBare(t *testing.T) {
	d := deskOf(t, own, 0)
	d.wantTake(who, 80)
	d.take(toSet)
	d.wantTake(who, 80)
	d.take([8]byte{17, 5})
	d.wantTake(who)
	d.take([8]byte{17, 255})
	d.wantTake(who, 80)
	d.take([8]byte{17, 5}, toWait)
	d.wantTake(who)
	d.take(toSet, [8]byte{17, 255})
	d.wantTake(who)
	d.take(toWait)
	d.wantTake(who)
	d.restart()
	d.wantTake(who, 80)
	d.wantMode(0)
}

// P19.2, P19.6: all the other commands, and in the wrong mode those that there are, tell nothing and change nothing.
func TestNoCommand(t *testing.T) {
	atBoth, waits, set := []int{4, 76}, []int{64, 65, 66, 67, 81}, []int{17, 19, 21, 23, 90, 91, 92, 93, 94}
	for mode, now := range [][]int{waits, set} {
		for c := range 256 {
			if slices.Contains(atBoth, c) || slices.Contains(now, c) {
				continue
			}
			for _, b := range []byte{0, 1, 5, 127, 128, 255} {
				d := deskOf(t, own, 0)
				d.take(selecting[:3]...)
				d.take(scanAnew, [8]byte{4, byte(mode)})
				before := *d.s
				d.wantTake([8]byte{byte(c), b})
				d.wantTake([8]byte{byte(c), 0, b, b, b, b, b, b})
				d.wantTake([8]byte{byte(c), 1, 2, 3, 4, 128})
				if *d.s != before {
					t.Fatalf("%d changes something in mode %d", c, mode)
				}
			}
		}
	}
}

// P19.2: bytes that are not named do not matter.
func TestSpareBytes(t *testing.T) {
	full := func(q [8]byte, named int) [8]byte {
		for i := named; i < 8; i++ {
			q[i] = 99
		}
		return q
	}
	d := deskOf(t, own, 0)
	d.wantTake(full(who, 1), 80)
	for _, q := range selecting[:3] {
		d.wantTake(full(q, 5))
	}
	d.wantTake(full(selecting[3], 5), 68)
	d.wantTake(full([8]byte{17, 5}, 2), 17)
	d.wantTake(full([8]byte{19, 0, 3}, 3), 19)
	d.wantTake(full(useRates, 1))
	d.wantTake(full(keep, 1), 23)
	d.wantTake(full([8]byte{92}, 1), 92, 0xa1, 0xa2, 0xa3, 0xa4)
	d.wantTake(full([8]byte{94}, 1), 94, 255)
	d.wantTake(full(toWait, 2))
	d.wantMode(0)
	d.wantID(5, 5)
	d.wantRate(3, 3)
	d.wantTake(full(toSet, 2))
	d.wantMode(1)
}

// From arguments alone: two slaves know nothing of one another.
func TestApart(t *testing.T) {
	a, b := deskOf(t, own, 0), deskOf(t, own, 0)
	a.take(selecting[:2]...)
	b.take(selecting[2:]...)
	b.wantMode(0)
	a.store(true)
	a.take(selecting[2:]...)
	a.wantMode(1)
	b.take(toSet, [8]byte{17, 5}, keep)
	a.wantStored(0, 0, false)
	a.wantID(0, 0)
	b.wantStored(5, 0, true)
}

// Ends: what the zero value answers is open, but it answers.
func TestZero(t *testing.T) {
	var s Slave
	for c := range 256 {
		s.Take([8]byte{byte(c), 1})
	}
	s.Store(true)
	s.Restart()
	s.Mode()
	s.ID()
	s.Rate()
	s.Stored()
}

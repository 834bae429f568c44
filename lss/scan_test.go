package lss

import "testing"

// P19.2: 81 with 128 begins anew, whatever the other bytes are, and at any time.
func TestScanAnew(t *testing.T) {
	d := deskOf(t, own, 0)
	for _, q := range [][8]byte{scanAnew, ask(0xffffffff, 128, 0, 0), ask(5, 128, 3, 1), ask(own[0], 128, 255, 255), ask(0, 128, 9, 0)} {
		d.wantTake(q, 79)
		d.wantMode(0)
		d.wantTake(ask(own[0], 0, 0, 1), 79)
		d.wantTake(ask(own[0], 0, 0, 1))
		d.wantTake(q, 79)
		d.wantTake(ask(own[1], 0, 1, 2))
		d.wantTake(ask(own[0], 0, 0, 2), 79)
		d.wantTake(ask(own[2], 0, 2, 3), 79)
	}
}

// P19.2: a question answers just if all but the lowest bits, so many as byte 5, are the same.
func TestScanBits(t *testing.T) {
	for part := range byte(4) {
		for bit := range byte(32) {
			for turned := range byte(32) {
				s, _ := New(own, 0)
				s.Take(scanAnew)
				if part > 0 {
					s.Take(ask(own[0], 0, 0, part))
				}
				want := turned < bit
				if a, is := s.Take(ask(own[part]^1<<turned, bit, part, part)); is != want || is && a != [8]byte{79} || !is && a != [8]byte{} {
					t.Fatalf("part %d, bit %d, turned %d: %v %v", part, bit, turned, a, is)
				}
			}
		}
	}
	for _, n := range []uint32{0, 0x7fffffff, 0x80000000, 0xffffffff} {
		for _, has := range []uint32{0, 0x7fffffff, 0x80000000, 0xffffffff} {
			for bit := range byte(32) {
				s, _ := New([4]uint32{has}, 0)
				if _, is := s.Take(ask(n, bit, 0, 0)); is != (n>>bit == has>>bit) {
					t.Errorf("%x of %x, bit %d: %v", n, has, bit, is)
				}
			}
		}
	}
}

// P19.2: byte 5 is at most 31, byte 6 and 7 at most 3; else nothing is answered, and nothing is changed.
func TestScanBytes(t *testing.T) {
	for b := range 256 {
		d := deskOf(t, own, 0)
		d.take(scanAnew)
		_, is := d.s.Take(ask(own[0], byte(b), 0, 0))
		if is != (b < 32 || b == 128) {
			t.Errorf("byte 5 %d: %v", b, is)
		}
		for looks := range byte(4) {
			d := deskOf(t, own, 0)
			d.take(scanAnew, ask(own[0], 0, 0, looks))
			n := own[b%4]
			if _, is := d.s.Take(ask(n, 1, byte(b), 0)); is != (byte(b) == looks) {
				t.Errorf("byte 6 %d, %d is looked for: %v", b, looks, is)
			}
			if _, is := d.s.Take(ask(own[looks], 1, looks, byte(b))); is != (b < 4) {
				t.Errorf("byte 7 %d: %v", b, is)
			}
			if _, is := d.s.Take(ask(own[looks], 0, looks, byte(b))); is != (b < 4) {
				t.Errorf("byte 7 %d, the last one: %v", b, is)
			}
			if found := byte(b) < looks; (d.s.Mode() == 1) != found {
				t.Errorf("from %d to %d: mode %d", looks, b, d.s.Mode())
			}
		}
	}
	d := deskOf(t, own, 0)
	d.take(scanAnew, ask(own[0], 0, 0, 1))
	for _, q := range [][8]byte{ask(own[1]+1, 0, 1, 2), ask(own[1], 32, 1, 2), ask(own[1], 127, 1, 2), ask(own[1], 129, 1, 2), ask(own[1], 255, 1, 0), ask(own[1], 0, 1, 4), ask(own[1], 0, 1, 255), ask(own[0], 0, 0, 0), ask(own[2], 0, 2, 0), ask(own[1], 0, 4, 0), ask(own[1], 0, 5, 0), ask(own[1], 0, 255, 0)} {
		d.wantTake(q)
		d.wantMode(0)
	}
	d.wantTake(ask(own[1], 0, 1, 0), 79)
	d.wantMode(1)
}

// P19.2: byte 5 above 0 looks at no other part then, and finds nothing.
func TestScanStays(t *testing.T) {
	for bit := byte(1); bit < 32; bit++ {
		d := deskOf(t, own, 0)
		d.take(scanAnew, ask(own[0], 0, 0, 2))
		for next := range byte(4) {
			d.wantTake(ask(own[2], bit, 2, next), 79)
			d.wantMode(0)
		}
		d.wantTake(ask(own[2], 0, 2, 2), 79)
		d.wantMode(0)
		d.wantTake(ask(own[2], 0, 2, 1), 79)
		d.wantMode(1)
	}
}

// P19.2: all ways from part to part: it is found when the next one is less; then it looks for part 0 again.
func TestScanParts(t *testing.T) {
	for n := range 64 {
		d := deskOf(t, own, 0)
		part, found := byte(0), false
		for i := range 3 {
			next := byte(n >> (2 * i) & 3)
			if found {
				d.wantTake(ask(own[part], 0, part, next))
				continue
			}
			d.wantTake(ask(own[part], 0, part, next), 79)
			found, part = next < part, next
			if found {
				d.wantMode(1)
			} else {
				d.wantMode(0)
			}
		}
		if found {
			d.take(toWait)
			d.wantTake(ask(own[0], 0, 0, 1), 79)
			d.wantTake(ask(own[1], 0, 1, 0), 79)
			d.wantMode(1)
		}
	}
}

// P19.2: it takes part in mode 0 alone, and only while neither number is there.
func TestScanWho(t *testing.T) {
	silent := func(d *desk) {
		t.Helper()
		before := *d.s
		for _, q := range [][8]byte{scanAnew, ask(own[0], 0, 0, 1), ask(own[0], 31, 0, 0), ask(own[1], 0, 1, 0)} {
			d.wantTake(q)
		}
		if *d.s != before {
			t.Error("a scan changes something")
		}
	}
	silent(deskOf(t, own, 5))
	d := deskOf(t, own, 0)
	d.take(scanAnew, ask(own[0], 0, 0, 1), toSet)
	silent(d)
	d.take(toWait)
	d.wantTake(ask(own[1], 0, 1, 2), 79)
	d.take(toSet, [8]byte{17, 5}, toWait)
	silent(d)
	d.take(toSet, [8]byte{17, 255}, toWait)
	silent(d)
	d.restart()
	d.wantTake(ask(own[2], 0, 2, 0))
	d.wantTake(ask(own[0], 0, 0, 1), 79)
}

// P19.1: a Restart forgets which part it looks for.
func TestScanRestart(t *testing.T) {
	for part := byte(1); part < 4; part++ {
		d := deskOf(t, own, 0)
		d.take(scanAnew, ask(own[0], 0, 0, part))
		d.restart()
		d.wantTake(ask(own[part], 0, part, 0))
		d.wantMode(0)
		d.wantTake(ask(own[0], 0, 0, part), 79)
	}
}

// P19.2: a scan and a selection do not know of one another.
func TestScanAndSelect(t *testing.T) {
	d := deskOf(t, own, 0)
	d.take(selecting[0], scanAnew, selecting[1])
	d.wantTake(ask(own[0], 0, 0, 1), 79)
	d.take(selecting[2])
	d.wantTake(selecting[3], 68)
	d.take(toWait)
	d.wantTake(ask(own[1], 0, 1, 0), 79)
	d.wantMode(1)
}

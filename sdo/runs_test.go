package sdo

import (
	"testing"

	"tramway/api"
)

// asker is who asks in a run: mostly as it should be, so that transfers come to an end, and now and then not.
type asker struct {
	dice
	places []string
	rest   []string // frames of a write that goes on
	turn   byte     // of a read that goes on
}

// next is the next frame to a server that does so.
func (a *asker) next(doing int) string {
	switch {
	case a.once(12):
		return a.bytes(8)
	case a.once(25):
		return framed(byte(a.below(256)), a.places[a.below(len(a.places))], a.bytes(4))
	case doing == 1 && len(a.rest) > 0:
		q := a.rest[0]
		if !a.once(20) {
			a.rest = a.rest[1:]
		}
		return q
	case doing == 2:
		q := framed(0x60 + a.turn)
		if !a.once(20) {
			a.turn ^= 16
		}
		return q
	}
	return a.first()
}

// first is a frame that begins something.
func (a *asker) first() string {
	at := a.places[a.below(len(a.places))]
	switch a.below(4) {
	case 0:
		a.turn = 0
		return framed(0x40, at)
	case 1:
		return framed(byte(0x22+a.below(2)+4*a.below(4)), at, a.some(4))
	}
	b := a.some(a.below(30))
	a.rest = segments(b)
	if a.once(2) {
		return framed(0x20, at)
	}
	said := len(b)
	if a.once(6) {
		said += a.below(3) - 1
	}
	return framed(0x21, at, four(uint32(said)))
}

// some bytes: such as texts may have, small numbers, or any.
func (a *asker) some(n int) string {
	switch a.below(3) {
	case 0:
		return a.letters(n)
	case 1:
		return a.bytes(n)
	}
	b := make([]byte, n)
	for i := range b {
		b[i] = byte(a.below(7))
	}
	return string(b)
}

// P10.1 to P10.7: runs of frames, held against a clerk behind each.
func TestRunsAsTheClerk(t *testing.T) {
	a := asker{dice: 106, places: append(places(), placed(0x3000, 0), placed(0x3000, 0), placed(0x4000, 0))}
	done := map[byte]int{}
	for range 300 {
		k := deskOf(t, append(shelf(), domain("0123456789"), octets(0x4000, 0, api.WriteOnly, ""))...)
		for range 200 {
			switch {
			case a.once(60):
				k.expire()
			case a.once(90):
				k.reset()
			case a.once(30):
				k.set(0x3000, 0, a.bytes(a.below(25)))
			}
			doing := k.serve.Doing()
			answer := k.ask(a.next(doing))
			if doing != 0 && k.serve.Doing() == 0 && answer[0] != 0x80 {
				done[answer[0]&0xe0]++
			}
		}
		k.wantSame()
	}
	if done[0x20] < 300 || done[0x00] < 300 {
		t.Errorf("too few transfers came to their end: %v", done)
	}
}

// P10.4 to P10.6: what is written in segments reads back in segments, whatever came before.
func TestThereAndBack(t *testing.T) {
	d := dice(107)
	k := deskOf(t, domain("old"))
	for n := range 120 {
		for range 5 {
			k.ask(d.bytes(8))
		}
		b := d.bytes(n)
		k.sends(framed(0x21, "\x00\x30\x00", four(uint32(n))))
		k.sends(segments(b)...)
		if got := k.readBack("\x00\x30\x00"); got != b {
			t.Fatalf("%q, want %q", got, b)
		}
		k.clerk.list = nil
		k.clerk.things["\x00\x30\x00"].raw = b
	}
}

// readBack is what a read tells, at once or in segments.
func (k *desk) readBack(at string) string {
	a, _ := k.serve.Handle([8]byte([]byte(framed(0x40, at))))
	if a[0]&2 != 0 {
		return string(a[4 : 8-a[0]>>2&3])
	}
	b := ""
	for turn := byte(0); ; turn ^= 16 {
		a, _ = k.serve.Handle([8]byte([]byte(framed(0x60 + turn))))
		b += string(a[1 : 8-a[0]>>1&7])
		if a[0]&1 != 0 {
			return b
		}
	}
}

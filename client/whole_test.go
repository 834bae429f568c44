package client

import (
	"strings"
	"testing"

	"tramway/api"
)

// What becomes of a frame.
const (
	through = iota
	lost
	twice
	other
)

// wire is a line whose frames may be lost, come twice, or be others. Those of one way come in the order in which they were sent.
type wire struct {
	*line
	dice
	fate         func(up bool) (what int, frame string) // up: to the server
	toServe, toC [][8]byte
}

// come is what comes of a frame.
func (w *wire) come(up bool, f [8]byte) [][8]byte {
	switch what, another := w.fate(up); what {
	case lost:
		return nil
	case twice:
		return [][8]byte{f, f}
	case other:
		return [][8]byte{arrayOf(another)}
	}
	return [][8]byte{f}
}

// step takes a frame from the wire, or lets time run out; whether there was something to do.
func (w *wire) step() bool {
	up := len(w.toServe) > 0 && (len(w.toC) == 0 || w.once(2))
	switch {
	case up:
		f := w.toServe[0]
		w.toServe = w.toServe[1:]
		for _, q := range w.come(true, f) {
			if a, is := w.serve.Handle(q); is {
				w.toC = append(w.toC, a)
			}
		}
	case len(w.toC) > 0:
		f := w.toC[0]
		w.toC = w.toC[1:]
		for _, a := range w.come(false, f) {
			if q, is := w.c.Feed(a); is {
				w.toServe = append(w.toServe, q)
			}
		}
	case w.c.Busy():
		q, _ := w.c.Expire()
		w.toServe = append(w.toServe, q)
	default:
		return false
	}
	return true
}

// writes writes bytes, and looks behind each step whether the entry has these or what it had.
func (w *wire) writes(b string) uint32 {
	w.t.Helper()
	before := w.has()
	q, err := w.c.Write(0x3000, 0, []byte(b))
	if err != api.OK {
		w.t.Fatalf("Write: %d", err)
	}
	w.toServe = append(w.toServe, q)
	for n := 0; w.step(); n++ {
		if has := w.has(); has != before && has != b {
			w.t.Fatalf("step %d of a write of %q on %q: it has %q", n, b, before, has)
		}
		if n > 1000 {
			w.t.Fatal("no end")
		}
	}
	_, code, has := w.c.Result()
	if !has {
		w.t.Fatal("no result")
	}
	return code
}

// wantFine looks whether a write that ended so, and to which nobody else answered, is there.
func (w *wire) wantFine(code uint32, b string) {
	w.t.Helper()
	if code == api.Fine && w.has() != b {
		w.t.Fatalf("Fine, but it has %q, not %q", w.has(), b)
	}
}

// answers are such as a client may wait for, and others.
var answers = []string{
	"60 00 30", "60 00 20", "20", "30", "40 00 30", "43 00 30 00 01 02 03 04", "41 00 30 00 09", "00", "01", "10", "0f",
	"80 00 30 00 00 00 04 05", "80", "a0", "e0 00 30",
}

// asks are such as are no part of a write: those of one would be another write.
var asks = []string{"40 00 30", "40 00 20", "60", "70", "80 00 30", "80", "a0 00 30", "c0", "e0"}

// P11.5: each frame of a write, of either way, is lost, comes twice, or is another one: a single fault, at each place.
func TestSingleFaults(t *testing.T) {
	const all = "the bytes of a write that are more than some"
	type fault struct {
		what  int
		frame string
	}
	faults := []fault{{lost, ""}, {twice, ""}}
	for _, s := range append(answers, asks...) {
		faults = append(faults, fault{other, hexed(s)})
	}
	for n := range len(all) {
		for at := range 2*len(writes("\x00\x30\x00", all[:n])) + 1 {
			for _, fault := range faults {
				seen := 0
				w := &wire{line: lineOf(t, many("old")), dice: dice(115 + n)}
				w.fate = func(up bool) (int, string) {
					seen++
					if seen-1 != at || up && fault.what == other && isWrite(fault.frame) {
						return through, ""
					}
					return fault.what, fault.frame
				}
				code := w.writes(all[:n])
				if fault.what != other {
					w.wantFine(code, all[:n])
				}
			}
		}
	}
}

// isWrite tells whether a frame is part of a write.
func isWrite(q string) bool { return q[0] < 64 }

// P11.5: many faults, and each write from a server that does nothing: one that is still at a write whose abort was lost can't tell the segments of the next one from its own, if that one's first frame is lost, too, and answered by somebody else.
func TestManyFaults(t *testing.T) {
	d := dice(116)
	codes := map[uint32]int{}
	for range 20000 {
		w := &wire{line: lineOf(t, many("old")), dice: dice(d.next())}
		w.fate = func(up bool) (int, string) {
			switch {
			case !d.once(6):
				return through, ""
			case up:
				return 1 + d.below(3), hexed(asks[d.below(len(asks))])
			case d.once(3):
				return other, d.bytes(8)
			}
			return 1 + d.below(3), hexed(answers[d.below(len(answers))])
		}
		codes[w.writes(strings.Repeat("new", 11)[:d.below(33)])]++
	}
	for _, code := range []uint32{api.Fine, api.NoToggle, api.NoCommand, api.TimedOut} {
		if codes[code] < 500 {
			t.Errorf("too few ended with %x: %d", code, codes[code])
		}
	}
}

// P11.5, P11.6: the answers to a write all come, though its segments be lost, two in a row: the server finds it by how many it was told.
func TestLostBehindTheClientsBack(t *testing.T) {
	const b = "the bytes of a write that are more than some"
	l := writes("\x00\x30\x00", b)
	for gone := 0; gone < len(l); gone++ {
		for n := 1; gone+n <= len(l); n++ {
			w := lineOf(t, many("old"))
			q, _ := w.c.Write(0x3000, 0, []byte(b))
			for i := range l {
				if i < gone || i >= gone+n {
					w.serve.Handle(q)
				}
				a := framed(0x60, "\x00\x30\x00")
				if i > 0 {
					a = framed(byte(0x20 + (i-1)%2*16))
				}
				q, _ = w.c.Feed(arrayOf(a))
			}
			if w.has() != "old" || w.c.Busy() {
				t.Fatalf("%d from the %dth on: it has %q", n, gone, w.has())
			}
		}
	}
}

// P11.5, P11.6: writes one behind the other, whose frames are lost or come twice, whose aborts, too; and in the end one whose frames come through.
func TestFaultsOneBehindTheOther(t *testing.T) {
	d := dice(118)
	for range 300 {
		faulty := true
		w := &wire{line: lineOf(t, many("old")), dice: dice(d.next())}
		w.fate = func(bool) (int, string) {
			if !faulty || !d.once(5) {
				return through, ""
			}
			return 1 + d.below(2), ""
		}
		for range 20 {
			b := d.bytes(d.below(40))
			w.wantFine(w.writes(b), b)
		}
		faulty = false
		b := d.bytes(d.below(40))
		if code := w.writes(b); code != api.Fine {
			t.Fatalf("%x", code)
		}
		if got, _ := w.read(0x3000, 0); got != (outcome{b, api.Fine, true}) {
			t.Fatalf("%v, want %q", got, b)
		}
	}
}

// P11.5: reads, whatever becomes of their frames, change nothing; if they are lost or come twice, what is read is what is there.
func TestFaultyReads(t *testing.T) {
	d := dice(119)
	codes := map[uint32]int{}
	for range 5000 {
		has := d.bytes(d.below(40))
		w := &wire{line: lineOf(t, many(has)), dice: dice(d.next())}
		w.fate = func(bool) (int, string) {
			if !d.once(8) {
				return through, ""
			}
			return 1 + d.below(2), ""
		}
		q, _ := w.c.Read(0x3000, 0)
		w.toServe = append(w.toServe, q)
		for w.step() {
		}
		b, code, is := w.c.Result()
		if !is || code == api.Fine && string(b) != has || code != api.Fine && len(b) != 0 || w.has() != has {
			t.Fatalf("%q: %q %x %v, it has %q", has, b, code, is, w.has())
		}
		codes[code]++
	}
	for _, code := range []uint32{api.Fine, api.NoToggle, api.NoCommand, api.TimedOut} {
		if codes[code] < 100 {
			t.Errorf("too few ended with %x: %d", code, codes[code])
		}
	}
}

package fault

import (
	"math"
	"testing"

	"tramway/api"
)

// edges are the counts at which something turns, with those beside them.
var edges = []int{0, 1, 2, 7, 8, 9, 87, 88, 94, 95, 96, 97, 119, 120, 121, 126, 127, 128, 129, 135, 136, 239, 240, 246, 247, 248, 249, 254, 255}

// dice is a source of numbers that are the same at each run.
type dice uint64

func (d *dice) next() uint64 {
	*d ^= *d << 13
	*d ^= *d >> 7
	*d ^= *d << 17
	return uint64(*d)
}

// below is a number from 0 to n, less 1.
func (d *dice) below(n int) int { return int(d.next() % uint64(n)) }

// call is a call that changes a unit.
type call struct {
	name string
	make func(u *Unit)
}

func sent(u *Unit)     { u.Sent() }
func received(u *Unit) { u.Received() }
func failed(u *Unit)   { u.Failed(false) }
func quiet(u *Unit)    { u.Failed(true) }
func erred(u *Unit)    { u.Erred(false) }
func late(u *Unit)     { u.Erred(true) }

// counting are all the calls that count.
func counting() []call {
	return []call{{"Sent", sent}, {"Received", received}, {"Failed", failed}, {"Failed quietly", quiet}, {"Erred", erred}, {"Erred late", late}}
}

func times(u *Unit, n int, make func(*Unit)) {
	for range n {
		make(u)
	}
}

// at is a unit on the bus with these counts, from 0 to 255, brought there by calls alone.
func at(t *testing.T, sending, receiving int) *Unit {
	t.Helper()
	u := New()
	ahead := sending
	if sending > 248 { // 32 failures in a row would be too many: the last one comes behind frames that went well
		ahead = sending - 8
	}
	failures := (ahead + 7) / 8
	times(u, failures, failed)
	times(u, failures*8-ahead, sent)
	if sending > 248 {
		u.Failed(false)
	}
	times(u, receiving, erred)
	if u.State() == api.Off {
		t.Fatal("a unit that is to have", sending, receiving, "is Off")
	}
	counts(t, u, sending, receiving)
	return u
}

// offAt is a unit that just went off, with this count of receiving.
func offAt(t *testing.T, receiving int) *Unit {
	t.Helper()
	u := at(t, 248, receiving)
	u.Failed(false)
	isOff(t, u, receiving)
	return u
}

func counts(t *testing.T, u *Unit, sending, receiving int) {
	t.Helper()
	if s, r := u.Counts(); s != sending || r != receiving {
		t.Fatal("counts", s, r, "and not", sending, receiving)
	}
}

func isOff(t *testing.T, u *Unit, receiving int) {
	t.Helper()
	counts(t, u, 256, receiving)
	if u.State() != api.Off || !u.Warns() {
		t.Fatal("not Off:", u.State(), u.Warns())
	}
}

// isNew tells whether a unit looks as a new one does, and takes no idle rows.
func isNew(t *testing.T, u *Unit) {
	t.Helper()
	counts(t, u, 0, 0)
	if u.State() != api.Active || u.Warns() {
		t.Fatal("not Active:", u.State(), u.Warns())
	}
	if u.Idle(128) || u.Idle(math.MaxInt) {
		t.Fatal("a unit that was not Off is back")
	}
	counts(t, u, 0, 0)
}

// wantsRows looks at a copy: whether it is Off, and back with just so many further idle rows, told one by one.
func wantsRows(t *testing.T, of *Unit, rows int) {
	t.Helper()
	u := *of
	for i := range rows {
		if u.State() != api.Off {
			t.Fatal("back already, behind", i, "rows and not", rows)
		}
		if back := u.Idle(1); back != (i == rows-1) {
			t.Fatal("row", i+1, "of", rows, "answers", back)
		}
	}
	isNew(t, &u)
}

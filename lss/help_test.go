package lss

import (
	"math"
	"testing"

	"tramway/api"
)

// The errors, by hand.
const (
	ok     api.Errno = 0
	errArg api.Errno = 1
)

// badNumbers are no numbers of nodes; the low bytes of some of them are.
var badNumbers = []int{math.MinInt, -1 << 32, -256, -127, -1, 128, 129, 255, 256, 261, 1 << 31, 1 << 32, 1<<32 + 5, math.MaxInt}

// own is the address of most tests' slaves: no two of its bytes are alike.
var own = [4]uint32{0x04030201, 0x14131211, 0xa4a3a2a1, 0xf4f3f2f1}

// frame is a command's, with a number behind it.
func frame(command byte, n uint32) [8]byte {
	return [8]byte{command, byte(n), byte(n >> 8), byte(n >> 16), byte(n >> 24)}
}

// ask is a scan's frame.
func ask(n uint32, bit, part, next byte) [8]byte {
	q := frame(81, n)
	q[5], q[6], q[7] = bit, part, next
	return q
}

// The frames that most tests hand in.
var (
	toWait    = [8]byte{4, 0}
	toSet     = [8]byte{4, 1}
	keep      = [8]byte{23}
	useRates  = [8]byte{21}
	who       = [8]byte{76}
	scanAnew  = [8]byte{81, 0, 0, 0, 0, 128}
	selecting = [4][8]byte{frame(64, own[0]), frame(65, own[1]), frame(66, own[2]), frame(67, own[3])}
)

// act is what happened to a slave, and what was so just ahead of it.
type act struct {
	kind int
	q    [8]byte
	mode int  // ahead
	bare bool // ahead: neither number is there
	did  bool // a command had an effect, or an answer that tells of none amiss
}

const (
	took = iota
	began
	storesWell
	storesBadly
)

// clerk is a slave written otherwise: it keeps all that happened, and looks back.
type clerk struct {
	address [4]uint32
	first   int // the number with which it was made
	acts    []act
}

// back goes through what happened, the last first, till one is found that decides.
func (k *clerk) back(from int, decides func(i int, a act) bool) {
	for i := from - 1; i >= 0; i-- {
		if decides(i, k.acts[i]) {
			return
		}
	}
}

// mode: what the last act that leads to one leads to.
func (k *clerk) mode() int {
	mode := 0
	k.back(len(k.acts), func(_ int, a act) bool {
		switch {
		case a.kind == began:
			return true
		case a.kind != took:
			return false
		case a.q[0] == 4 && a.q[1] < 2:
			mode = int(a.q[1])
			return true
		case a.did && (a.q[0] == 67 || a.q[0] == 81 && a.q[5] == 0 && a.q[7] < a.q[6]):
			mode = 1
			return true
		}
		return false
	})
	return mode
}

// storedAt is where it stored last, ahead of a place; below 0: nowhere.
func (k *clerk) storedAt(before int) int {
	at := -1
	k.back(before, func(i int, a act) bool {
		if a.kind == took && a.q[0] == 23 && a.did {
			at = i
		}
		return at >= 0
	})
	return at
}

// pending is its pending number ahead of a place: the last one that it was given, or that which it had stored when it began anew.
func (k *clerk) pending(before int) int {
	id := k.first
	k.back(before, func(i int, a act) bool {
		if a.kind == took && a.q[0] == 17 && a.did {
			id = int(a.q[1]) % 255
			return true
		}
		if at := k.storedAt(i); a.kind == began && at >= 0 {
			id = k.pending(at)
			return true
		}
		return false
	})
	return id
}

// used is the number that it uses ahead of a place: the pending one of when it began last, or, if that is none, of the first 4 0 behind that with one.
func (k *clerk) used(before int) int {
	start, id := 0, k.first
	k.back(before, func(i int, a act) bool {
		if a.kind == began {
			start, id = i+1, k.pending(i+1)
		}
		return a.kind == began
	})
	for i := start; i < before && id == 0; i++ {
		if a := k.acts[i]; a.kind == took && a.q[0] == 4 && a.q[1] == 0 {
			id = k.pending(i)
		}
	}
	return id
}

// rate is its pending rate ahead of a place.
func (k *clerk) rate(before int) int {
	rate := 0
	k.back(before, func(i int, a act) bool {
		if a.kind == took && a.q[0] == 19 && a.did {
			rate = int(a.q[2])
			return true
		}
		if at := k.storedAt(i); a.kind == began && at >= 0 {
			rate = k.rate(at)
			return true
		}
		return false
	})
	return rate
}

// usedRate is the pending rate of when it was told to use it, or of when it began with what it had stored.
func (k *clerk) usedRate() int {
	rate := 0
	k.back(len(k.acts), func(i int, a act) bool {
		if a.kind == took && a.q[0] == 21 && a.did || a.kind == began && k.storedAt(i) >= 0 {
			rate = k.rate(i + 1)
			return true
		}
		return false
	})
	return rate
}

// selected: whether 67 is the last one of a row of four, with nothing that breaks the row between.
func (k *clerk) selected(q [8]byte) bool {
	isPart := func(q [8]byte, command byte) bool {
		q[5], q[6], q[7] = 0, 0, 0
		return q == frame(command, k.address[command-64])
	}
	turn, whole := byte(67), isPart(q, 67)
	k.back(len(k.acts), func(_ int, a act) bool {
		if a.kind != took || a.mode == 1 || a.q[0] < 64 || a.q[0] > 67 {
			return !whole || a.kind == began
		}
		turn--
		whole = whole && isPart(a.q, turn)
		return !whole || turn == 64
	})
	return whole && turn == 64
}

// scanned is the part that it looks for.
func (k *clerk) scanned() byte {
	part := byte(0)
	k.back(len(k.acts), func(_ int, a act) bool {
		if a.kind == took && a.q[0] == 81 && a.did && a.q[5] == 0 && a.q[7] >= a.q[6] {
			part = a.q[7]
			return true
		}
		return a.kind == began || a.kind == took && a.q[0] == 81 && a.did && a.q[5]%128 == 0
	})
	return part
}

// answersScan: bit by bit.
func (k *clerk) answersScan(q [8]byte) bool {
	if q[5] == 128 {
		return true
	}
	if q[5] > 31 || q[6] > 3 || q[7] > 3 || q[6] != k.scanned() {
		return false
	}
	n := frame(0, k.address[q[6]])
	for bit := int(q[5]); bit < 32; bit++ {
		if n[1+bit/8]>>(bit%8)&1 != q[1+bit/8]>>(bit%8)&1 {
			return false
		}
	}
	return true
}

// fails: whether storing does.
func (k *clerk) fails() bool {
	fails := false
	k.back(len(k.acts), func(_ int, a act) bool {
		fails = a.kind == storesBadly
		return a.kind == storesWell || a.kind == storesBadly
	})
	return fails
}

// answer is what it tells to a command, and whether that did something.
func (k *clerk) answer(q [8]byte, mode int, bare bool) ([8]byte, bool, bool) {
	n := len(k.acts)
	switch c := q[0]; {
	case c == 76:
		return [8]byte{80}, bare, false
	case mode == 0 && c == 67:
		is := k.selected(q)
		return [8]byte{68}, is, is
	case mode == 0 && c == 81:
		is := bare && k.answersScan(q)
		return [8]byte{79}, is, is
	case mode == 1 && c == 17:
		if q[1] == 255 || q[1] > 0 && q[1] < 128 {
			return [8]byte{17}, true, true
		}
		return [8]byte{17, 1}, true, false
	case mode == 1 && c == 19:
		if q[1] == 0 && (q[2] < 5 || q[2] > 5 && q[2] < 9) {
			return [8]byte{19}, true, true
		}
		return [8]byte{19, 1}, true, false
	case mode == 1 && c == 21:
		return [8]byte{}, false, true
	case mode == 1 && c == 23:
		if k.fails() {
			return [8]byte{23, 2}, true, false
		}
		return [8]byte{23}, true, true
	case mode == 1 && c >= 90 && c <= 93:
		return frame(c, k.address[c-90]), true, false
	case mode == 1 && c == 94 && k.used(n) == 0:
		return [8]byte{94, 255}, true, false
	case mode == 1 && c == 94:
		return [8]byte{94, byte(k.used(n))}, true, false
	}
	return [8]byte{}, false, false
}

func (k *clerk) take(q [8]byte) ([8]byte, bool) {
	n := len(k.acts)
	mode, bare := k.mode(), k.pending(n) == 0 && k.used(n) == 0
	a, is, did := k.answer(q, mode, bare)
	k.acts = append(k.acts, act{took, q, mode, bare, did})
	if !is {
		return [8]byte{}, false
	}
	return a, true
}

// desk is a slave and the clerk that it is held against, call by call.
type desk struct {
	t *testing.T
	s *Slave
	k clerk
}

func deskOf(t *testing.T, address [4]uint32, id int) *desk {
	t.Helper()
	s, err := New(address, id)
	if s == nil || err != ok {
		t.Fatalf("New(%x, %d): %v %d", address, id, s, err)
	}
	d := &desk{t, s, clerk{address: address, first: id}}
	d.same()
	return d
}

// same looks at all that may be looked at, which changes nothing.
func (d *desk) same() {
	d.t.Helper()
	n := len(d.k.acts)
	if mode, want := d.s.Mode(), d.k.mode(); mode != want {
		d.t.Fatalf("Mode: %d, want %d: %v", mode, want, d.k.acts)
	}
	if p, u := d.s.ID(); p != d.k.pending(n) || u != d.k.used(n) {
		d.t.Fatalf("ID: %d %d, want %d %d: %v", p, u, d.k.pending(n), d.k.used(n), d.k.acts)
	}
	if p, u := d.s.Rate(); p != d.k.rate(n) || u != d.k.usedRate() {
		d.t.Fatalf("Rate: %d %d, want %d %d: %v", p, u, d.k.rate(n), d.k.usedRate(), d.k.acts)
	}
	id, rate := 0, 0
	at := d.k.storedAt(n)
	if at >= 0 {
		id, rate = d.k.pending(at), d.k.rate(at)
	}
	if i, r, is := d.s.Stored(); i != id || r != rate || is != (at >= 0) {
		d.t.Fatalf("Stored: %d %d %v, want %d %d %v: %v", i, r, is, id, rate, at >= 0, d.k.acts)
	}
}

// take hands frames in, and answers the last one's answer (noughts: none).
func (d *desk) take(l ...[8]byte) (a [8]byte) {
	d.t.Helper()
	for _, q := range l {
		b, is := d.s.Take(q)
		want, tells := d.k.take(q)
		if b != want || is != tells {
			d.t.Fatalf("Take(%v): %v %v, want %v %v: %v", q, b, is, want, tells, d.k.acts)
		}
		d.same()
		a = b
	}
	return a
}

func (d *desk) restart() {
	d.t.Helper()
	d.s.Restart()
	d.k.acts = append(d.k.acts, act{kind: began})
	d.same()
}

func (d *desk) store(fails bool) {
	d.t.Helper()
	d.s.Store(fails)
	kind := storesWell
	if fails {
		kind = storesBadly
	}
	d.k.acts = append(d.k.acts, act{kind: kind})
	d.same()
}

// wantTake: what a frame is answered (noughts: nothing), by hand.
func (d *desk) wantTake(q [8]byte, want ...byte) {
	d.t.Helper()
	var a [8]byte
	copy(a[:], want)
	if b := d.take(q); b != a {
		d.t.Fatalf("Take(%v): %v, want %v", q, b, a)
	}
}

// wantMode: its mode, by hand.
func (d *desk) wantMode(want int) {
	d.t.Helper()
	if mode := d.s.Mode(); mode != want {
		d.t.Fatalf("Mode: %d, want %d", mode, want)
	}
}

// wantID: its numbers, by hand.
func (d *desk) wantID(pending, used int) {
	d.t.Helper()
	if p, u := d.s.ID(); p != pending || u != used {
		d.t.Fatalf("ID: %d %d, want %d %d", p, u, pending, used)
	}
}

// wantRate: its rates, by hand.
func (d *desk) wantRate(pending, used int) {
	d.t.Helper()
	if p, u := d.s.Rate(); p != pending || u != used {
		d.t.Fatalf("Rate: %d %d, want %d %d", p, u, pending, used)
	}
}

// wantStored: what it stored (nothing: is is false), by hand.
func (d *desk) wantStored(id, rate int, is bool) {
	d.t.Helper()
	if i, r, there := d.s.Stored(); i != id || r != rate || there != is {
		d.t.Fatalf("Stored: %d %d %v, want %d %d %v", i, r, there, id, rate, is)
	}
}

// die is a source of numbers that are always the same ones.
type die uint64

func dice(seed uint64) *die {
	d := die(seed)
	return &d
}

func (d *die) next() uint64 {
	*d += 0x9e3779b97f4a7c15
	z := uint64(*d)
	z = (z ^ z>>30) * 0xbf58476d1ce4e5b9
	z = (z ^ z>>27) * 0x94d049bb133111eb
	return z ^ z>>31
}

func (d *die) below(n int) int { return int(d.next() >> 1 % uint64(n)) }

// near is a part, or one that differs in a single bit.
func (d *die) near(n uint32) uint32 {
	if d.below(4) > 0 {
		return n
	}
	return n ^ 1<<d.below(32)
}

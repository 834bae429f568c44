package pdo

import (
	"bytes"
	"fmt"
	"testing"

	"tramway/api"
)

// The errors, by hand.
const (
	ok     api.Errno = 0
	errArg api.Errno = 1
)

const (
	far = 4294967296 // 2^32
	end = 1<<64 - 1
)

// types are all that may be.
func types() []int {
	var l []int
	for typ := 0; typ <= 240; typ++ {
		l = append(l, typ)
	}
	return append(l, 254, 255)
}

// badTypes are some that may not.
func badTypes() []int {
	l := []int{-1 << 63, -1 << 32, -256, -255, -254, -240, -2, -1, 256, 257, 510, 1 << 8, 1<<16 + 254, 1 << 32, 1<<32 + 1, 1<<32 + 254, 1<<63 - 1}
	for typ := 241; typ <= 253; typ++ {
		l = append(l, typ)
	}
	return l
}

// clerk is a sender written otherwise: calls and ticks have times since the start, and all hangs on which time is ahead of which.
type clerk struct {
	f           api.Form
	on          bool
	calls       int    // since the start
	asked       int    // which call the last event was that was not sent
	told        int    // which call the last one was with which it was sent
	syncs       int    // since the start
	now         uint64 // ticks since the start
	free, again uint64 // from which tick on it may be sent, and is sent in any case
}

func (k *clerk) atOnce() bool { return k.f.Type == 254 || k.f.Type == 255 }

func (k *clerk) start(on bool) {
	if on && !k.on {
		*k = clerk{f: k.f, again: k.f.Event}
	}
	k.on = on
}

func (k *clerk) sent() bool {
	k.told = k.calls
	k.free, k.again = k.now+k.f.Inhibit, k.now+k.f.Event
	return true
}

func (k *clerk) event() bool {
	if !k.on {
		return false
	}
	k.calls++
	if k.atOnce() && k.now >= k.free {
		return k.sent()
	}
	k.asked = k.calls
	return false
}

func (k *clerk) sync() bool {
	if !k.on {
		return false
	}
	k.calls++
	k.syncs++
	switch {
	case k.atOnce():
		return false
	case k.f.Type > 0:
		return k.syncs/k.f.Type > (k.syncs-1)/k.f.Type
	case k.asked > k.told:
		return k.sent()
	}
	return false
}

func (k *clerk) tick() bool {
	if !k.on {
		return false
	}
	k.calls++
	k.now++
	if !k.atOnce() || k.now < k.free {
		return false
	}
	if k.asked > k.told || k.f.Event > 0 && k.now >= k.again {
		return k.sent()
	}
	return false
}

// desk is a sender and the clerk that it is held against, call by call.
type desk struct {
	t *testing.T
	s *Sender
	k clerk
}

func deskOf(t *testing.T, f api.Form) *desk {
	t.Helper()
	s, err := NewSender(f)
	if s == nil || err != ok {
		t.Fatalf("NewSender(%v): %v %d", f, s, err)
	}
	return &desk{t, s, clerk{f: f}}
}

// started is a desk that goes.
func started(t *testing.T, f api.Form) *desk {
	t.Helper()
	d := deskOf(t, f)
	d.start(true)
	return d
}

func (d *desk) start(on bool) {
	d.s.Start(on)
	d.k.start(on)
}

func (d *desk) same(is, want bool, of string) bool {
	d.t.Helper()
	if is != want {
		d.t.Fatalf("%s of %v: %v, want %v (%+v)", of, d.k.f, is, want, d.k)
	}
	return is
}

func (d *desk) event() bool {
	d.t.Helper()
	return d.same(d.s.Event(), d.k.event(), "Event")
}

func (d *desk) sync(counter int) bool {
	d.t.Helper()
	return d.same(d.s.Sync(counter), d.k.sync(), fmt.Sprint("Sync ", counter))
}

func (d *desk) tick() bool {
	d.t.Helper()
	return d.same(d.s.Tick(), d.k.tick(), "Tick")
}

// wants goes through calls, a letter each (e, s, t; + and - start and stop it): in capitals those with which it is sent.
func (d *desk) wants(calls string) {
	d.t.Helper()
	for i, c := range calls {
		var is bool
		switch c | ' ' {
		case 'e':
			is = d.event()
		case 's':
			is = d.sync(i)
		case 't':
			is = d.tick()
		default:
			d.start(c == '+')
			continue
		}
		if want := c < 'a'; is != want {
			d.t.Fatalf("%v: call %d of %s: %v, want %v", d.k.f, i, calls, is, want)
		}
	}
}

// ledger is a taker written otherwise: it keeps all that came and each SYNC, and looks back.
type ledger struct {
	typ  int
	on   bool
	rows []row
}

// row is an object that came, or a SYNC.
type row struct {
	sync bool
	text string
}

func (k *ledger) start(on bool) {
	if on && !k.on {
		k.rows = nil
	}
	k.on = on
}

func (k *ledger) take(text string) (string, bool) {
	if !k.on {
		return "", false
	}
	k.rows = append(k.rows, row{text: text})
	if k.typ == 254 || k.typ == 255 {
		return text, true
	}
	return "", false
}

func (k *ledger) sync() (string, bool) {
	if !k.on {
		return "", false
	}
	k.rows = append(k.rows, row{sync: true})
	if len(k.rows) < 2 || k.typ == 254 || k.typ == 255 {
		return "", false
	}
	last := k.rows[len(k.rows)-2]
	return last.text, !last.sync
}

// till is a taker and the ledger that it is held against, call by call.
type till struct {
	t *testing.T
	k *Taker
	l ledger
}

func tillOf(t *testing.T, typ int) *till {
	t.Helper()
	k, err := NewTaker(typ)
	if k == nil || err != ok {
		t.Fatalf("NewTaker(%d): %v %d", typ, k, err)
	}
	return &till{t, k, ledger{typ: typ}}
}

func (h *till) start(on bool) {
	h.k.Start(on)
	h.l.start(on)
}

func (h *till) same(b []byte, is bool, want string, wanted bool, of string) {
	h.t.Helper()
	if string(b) != want || is != wanted {
		h.t.Fatalf("%s of type %d: %q %v, want %q %v", of, h.l.typ, b, is, want, wanted)
	}
}

// take hands over bytes with spare room, and spoils them and what was answered then.
func (h *till) take(text string) {
	h.t.Helper()
	room := append([]byte(text), "spare"...)
	b, is := h.k.Take(room[:len(text)])
	want, wanted := h.l.take(text)
	h.same(b, is, want, wanted, "Take")
	if !bytes.Equal(room, []byte(text+"spare")) {
		h.t.Fatalf("what was handed in is %q, was %q", room, text)
	}
	spoil(room)
	h.same(b, is, want, wanted, "Take, what was handed in spoilt,")
	spoil(b)
}

func (h *till) sync() {
	h.t.Helper()
	b, is := h.k.Sync()
	want, wanted := h.l.sync()
	h.same(b, is, want, wanted, "Sync")
	spoil(b)
}

func (h *till) wantTake(text, want string, wanted bool) {
	h.t.Helper()
	b, is := h.k.Take([]byte(text))
	h.l.take(text)
	h.same(b, is, want, wanted, "Take")
}

func (h *till) wantSync(want string, wanted bool) {
	h.t.Helper()
	b, is := h.k.Sync()
	h.l.sync()
	h.same(b, is, want, wanted, "Sync")
}

// spoil writes over a list, its spare room too.
func spoil(b []byte) {
	b = b[:cap(b)]
	for i := range b {
		b[i] = '!'
	}
}

// die is a source of numbers that are always the same ones.
type die uint64

func dice(seed uint64) *die {
	d := die(seed)
	return &d
}

func (d *die) below(n int) int {
	*d += 0x9e3779b97f4a7c15
	z := uint64(*d)
	z = (z ^ z>>30) * 0xbf58476d1ce4e5b9
	z = (z ^ z>>27) * 0x94d049bb133111eb
	return int((z ^ z>>31) >> 1 % uint64(n))
}

// form is of any type, with short times.
func (d *die) form() api.Form {
	f := api.Form{Inhibit: uint64(d.below(12)), Event: uint64(d.below(12))}
	switch d.below(6) {
	case 0:
		f.Type = 0
	case 1:
		f.Type = 1 + d.below(240)
	case 2:
		f.Type = 1 + d.below(6)
	case 3:
		f.Type = 255
	default:
		f.Type = 254
	}
	if d.below(4) == 0 {
		f.Inhibit = 0
	}
	if d.below(4) == 0 {
		f.Event = 0
	}
	return f
}

package emcy

import (
	"slices"
	"testing"

	"tramway/api"
)

// The errors, by hand.
const (
	ok     api.Errno = 0
	errArg api.Errno = 1
)

const (
	far = 4294967296 // 2^32
	end = 1<<64 - 1
)

// trouble is an error of a code, with its register and further bytes.
func trouble(code uint16, register uint8, extra ...byte) api.Trouble {
	x := api.Trouble{Code: code, Register: register}
	copy(x.Extra[:], extra)
	return x
}

// codes are errors without anything else.
func codes(l ...uint16) []api.Trouble {
	var all []api.Trouble
	for _, code := range l {
		all = append(all, api.Trouble{Code: code})
	}
	return all
}

// row is an error that was raised, or (without it) one of a code that was cleared.
type row struct {
	raised bool
	api.Trouble
}

// scribe is a teller written otherwise: it keeps all that happened, and looks back.
type scribe struct {
	history int
	inhibit uint64
	rows    []row
	forgot  int // how many rows there were when the history was emptied
	frames  [][8]byte
	told    []uint64 // of the frames that were told, the ticks that had gone by
	ticks   uint64
}

func (k *scribe) raise(x api.Trouble) bool {
	isThere := func(y api.Trouble) bool { return y.Code == x.Code }
	if x.Code/256 == 0 || slices.ContainsFunc(k.now(), isThere) {
		return false
	}
	k.rows = append(k.rows, row{true, x})
	k.wait([8]byte{byte(x.Code % 256), byte(x.Code / 256), k.register(), x.Extra[0], x.Extra[1], x.Extra[2], x.Extra[3], x.Extra[4]})
	return true
}

func (k *scribe) clear(code uint16) bool {
	before := len(k.now())
	k.rows = append(k.rows, row{false, api.Trouble{Code: code}})
	left := k.now()
	if len(left) == before {
		k.rows = k.rows[:len(k.rows)-1]
		return false
	}
	b := [8]byte{2: k.register()}
	if len(left) > 0 {
		b[0], b[1] = byte(left[0].Code%256), byte(left[0].Code/256)
	}
	k.wait(b)
	return true
}

func (k *scribe) wait(b [8]byte) {
	if k.waiting() < 16 {
		k.frames = append(k.frames, b)
	}
}

func (k *scribe) waiting() int { return len(k.frames) - len(k.told) }

// quiet: whether the frame that was told last is too near.
func (k *scribe) quiet() bool {
	n := len(k.told)
	return n > 0 && k.ticks-k.told[n-1] < k.inhibit
}

func (k *scribe) tick() bool {
	k.ticks++
	return k.waiting() > 0 && !k.quiet()
}

func (k *scribe) frame() ([8]byte, bool) {
	if k.waiting() == 0 || k.quiet() {
		return [8]byte{}, false
	}
	k.told = append(k.told, k.ticks)
	return k.frames[len(k.told)-1], true
}

// now: what was raised and not cleared behind that.
func (k *scribe) now() []api.Trouble {
	var l []api.Trouble
	for i, x := range k.rows {
		isCleared := func(y row) bool { return !y.raised && y.Code == x.Code }
		if x.raised && !slices.ContainsFunc(k.rows[i:], isCleared) {
			l = append(l, x.Trouble)
		}
	}
	return l
}

// past: what was raised, from the last one on, and not forgotten.
func (k *scribe) past() []api.Trouble {
	var l []api.Trouble
	for i := len(k.rows) - 1; i >= k.forgot && len(l) < k.history; i-- {
		if k.rows[i].raised {
			l = append(l, k.rows[i].Trouble)
		}
	}
	return l
}

// register is told bit by bit.
func (k *scribe) register() uint8 {
	now := k.now()
	var all uint8
	for bit := uint8(128); bit > 1; bit /= 2 {
		if slices.ContainsFunc(now, func(x api.Trouble) bool { return x.Register/bit%2 == 1 }) {
			all += bit
		}
	}
	if len(now) > 0 {
		all++
	}
	return all
}

// desk is a teller and the scribe that it is held against, call by call.
type desk struct {
	t *testing.T
	s *Teller
	k scribe
}

func deskOf(t *testing.T, history int, inhibit uint64) *desk {
	t.Helper()
	s, err := New(history, inhibit)
	if s == nil || err != ok {
		t.Fatalf("New(%d, %d): %v %d", history, inhibit, s, err)
	}
	return &desk{t, s, scribe{history: history, inhibit: inhibit}}
}

// same looks at all that may be looked at, which changes nothing.
func (d *desk) same() {
	d.t.Helper()
	if is, want := d.s.Register(), d.k.register(); is != want {
		d.t.Fatalf("Register: %x, want %x", is, want)
	}
	wantList(d.t, "Now", d.s.Now(), d.k.now())
	wantList(d.t, "History", d.s.History(), d.k.past())
}

func (d *desk) raise(x api.Trouble) bool {
	d.t.Helper()
	is, want := d.s.Raise(x), d.k.raise(x)
	if is != want {
		d.t.Fatalf("Raise(%v): %v, want %v", x, is, want)
	}
	return is
}

func (d *desk) clear(code uint16) bool {
	d.t.Helper()
	is, want := d.s.Clear(code), d.k.clear(code)
	if is != want {
		d.t.Fatalf("Clear(%x): %v, want %v", code, is, want)
	}
	return is
}

func (d *desk) tick() bool {
	d.t.Helper()
	is, want := d.s.Tick(), d.k.tick()
	if is != want {
		d.t.Fatalf("Tick: %v, want %v", is, want)
	}
	return is
}

func (d *desk) frame() ([8]byte, bool) {
	d.t.Helper()
	b, is := d.s.Frame()
	want, wanted := d.k.frame()
	if b != want || is != wanted {
		d.t.Fatalf("Frame: %x %v, want %x %v", b, is, want, wanted)
	}
	return b, is
}

func (d *desk) forget() {
	d.s.Forget()
	d.k.forgot = len(d.k.rows)
}

func (d *desk) wantRaise(x api.Trouble, want bool) {
	d.t.Helper()
	if d.raise(x) != want {
		d.t.Fatalf("Raise(%v): %v, want %v", x, !want, want)
	}
	d.same()
}

func (d *desk) wantClear(code uint16, want bool) {
	d.t.Helper()
	if d.clear(code) != want {
		d.t.Fatalf("Clear(%x): %v, want %v", code, !want, want)
	}
	d.same()
}

func (d *desk) wantTick(want bool) {
	d.t.Helper()
	if d.tick() != want {
		d.t.Fatalf("Tick: %v, want %v", !want, want)
	}
}

// wantFrame: one is told, of these bytes, and noughts behind them.
func (d *desk) wantFrame(l ...byte) {
	d.t.Helper()
	var want [8]byte
	copy(want[:], l)
	if b, is := d.frame(); b != want || !is {
		d.t.Fatalf("Frame: %x %v, want %x", b, is, want)
	}
	d.same()
}

func (d *desk) wantNoFrame() {
	d.t.Helper()
	if b, is := d.frame(); b != [8]byte{} || is {
		d.t.Fatalf("Frame: %x %v, want none", b, is)
	}
	d.same()
}

// wantHas: the register, what is there, and the history.
func (d *desk) wantHas(register uint8, now, past []api.Trouble) {
	d.t.Helper()
	if is := d.s.Register(); is != register {
		d.t.Fatalf("Register: %x, want %x", is, register)
	}
	wantList(d.t, "Now", d.s.Now(), now)
	wantList(d.t, "History", d.s.History(), past)
}

func wantList(t *testing.T, of string, is, want []api.Trouble) {
	t.Helper()
	if !slices.Equal(is, want) {
		t.Fatalf("%s: %x, want %x", of, is, want)
	}
}

// spoil writes over a list, its spare room too.
func spoil(l []api.Trouble) {
	l = l[:cap(l)]
	for i := range l {
		l[i] = trouble(0xffff, 0xff, 0xff, 0xff, 0xff, 0xff, 0xff)
	}
}

// die is a source of numbers that are always the same ones.
type die uint64

func dice(seed uint64) *die {
	d := die(seed)
	return &d
}

func (d *die) next() uint64 {
	*d += 0x9e3779b97f4a7c15
	z := uint64(*d)
	z = (z ^ z>>30) * 0xbf58476d1ce4e5b9
	z = (z ^ z>>27) * 0x94d049bb133111eb
	return z ^ z>>31
}

func (d *die) below(n int) int { return int(d.next() >> 1 % uint64(n)) }

// trouble is any of some codes, a few of which may not be.
func (d *die) trouble(kinds int) api.Trouble {
	n := d.next()
	return trouble(d.code(kinds), uint8(1<<d.below(9)), byte(n), byte(n>>8), byte(n>>16), byte(n>>24), byte(n>>32))
}

func (d *die) code(kinds int) uint16 {
	n := uint16(d.below(kinds))
	if d.below(10) == 0 {
		return n
	}
	return 0x100*(1+n%3) + n
}

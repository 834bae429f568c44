package driver

import (
	"testing"

	"tramway/api"
	"tramway/frame"
)

// dice is a source of numbers that are the same at each run.
type dice uint64

func (d *dice) next() uint64 {
	*d ^= *d << 13
	*d ^= *d >> 7
	*d ^= *d << 17
	return uint64(*d)
}

// below is a number from 0 to n, less 1.
func (d *dice) below(n int) int { return int(d.next() % uint64(n)) }

func (d *dice) once(in int) bool { return d.below(in) == 0 }

// frame is a frame that can be, of so many identifiers, so that fields meet; an extended one often has a base one's high bits.
func (d *dice) frame(ids int) api.Frame {
	f := api.Frame{ID: uint32(d.below(ids)), Extended: d.once(3), Remote: d.once(4), Len: d.below(16)}
	if f.Extended && d.once(2) {
		f.ID = f.ID%2048<<18 | uint32(d.below(2))
	}
	for i := range f.Data {
		f.Data[i] = byte(d.next())
	}
	return f
}

// bad is a frame that can't be.
func (d *dice) bad() api.Frame { return badFrames[d.below(len(badFrames))] }

// filter lets some of the frames of so many identifiers pass, and sometimes all or none.
func (d *dice) filter(ids int) api.Filter {
	x := api.Filter{ID: uint32(d.below(ids)), Mask: uint32(d.below(2 * ids)), Extended: d.once(2)}
	switch d.below(6) {
	case 0:
		x.Mask = 0
	case 1:
		x.Mask = 1<<32 - 1
	case 2:
		x.ID, x.Mask = uint32(d.next()), uint32(d.next()&d.next()&d.next())
	}
	return x
}

// badFrames can't be: an ID of too many bits, a Len that is out of its range.
var badFrames = []api.Frame{
	{ID: 1 << 11},
	{ID: 1 << 31},
	{ID: 1<<32 - 1, Remote: true},
	{ID: 1 << 29, Extended: true},
	{ID: 1<<32 - 1, Extended: true, Remote: true},
	{Len: -1},
	{Len: 16},
	{ID: 5, Extended: true, Len: -1 << 31},
	{ID: 5, Remote: true, Len: 1<<31 - 1},
}

// passesBy is whether a filter lets a frame that can be pass, bit by bit.
func passesBy(x api.Filter, f api.Frame) bool {
	for bit := range 32 {
		asked := x.Mask>>bit%2 == 1
		if asked && x.ID>>bit%2 != f.ID>>bit%2 {
			return false
		}
	}
	return x.Extended == f.Extended
}

// ledger is a driver written otherwise: what lies in mailboxes by its ticket, and all that ever had room.
type ledger struct {
	boxes, room   int
	filters       []api.Filter
	out           map[int]api.Frame
	given         int
	all           []api.Frame
	fetched, lost int
}

func newLedger(boxes, room int, filters []api.Filter) *ledger {
	return &ledger{boxes: boxes, room: room, filters: filters, out: map[int]api.Frame{}}
}

func (g *ledger) passes(f api.Frame) bool {
	any := len(g.filters) == 0
	for _, x := range g.filters {
		any = any || passesBy(x, f)
	}
	return any && frame.Check(f) == api.OK
}

func (g *ledger) send(f api.Frame) (int, api.Errno) {
	switch {
	case frame.Check(f) != api.OK:
		return 0, api.ErrArg
	case len(g.out) >= g.boxes:
		return 0, api.ErrBusy
	}
	g.given++
	g.out[g.given] = frame.Plain(f)
	return g.given, api.OK
}

// best is the ticket of the frame that comes first, or 0: it goes through the tickets as they were given, so that of one field the first stays.
func (g *ledger) best() int {
	best := 0
	for ticket := 1; ticket <= g.given; ticket++ {
		f, is := g.out[ticket]
		if !is {
			continue
		}
		if best == 0 {
			best = ticket
			continue
		}
		if which, err := frame.First([]api.Frame{g.out[best], f}); err == api.OK && which == 1 {
			best = ticket
		}
	}
	return best
}

func (g *ledger) drop(ticket int) bool {
	_, is := g.out[ticket]
	delete(g.out, ticket)
	return is
}

func (g *ledger) take(f api.Frame) api.Errno {
	switch {
	case frame.Check(f) != api.OK:
		return api.ErrArg
	case !g.passes(f):
		return api.ErrNone
	case len(g.all)-g.fetched >= g.room:
		g.lost++
		return api.ErrOverrun
	}
	g.all = append(g.all, frame.Plain(f))
	return api.OK
}

func (g *ledger) fetch() (api.Frame, bool) {
	if g.fetched == len(g.all) {
		return api.Frame{}, false
	}
	g.fetched++
	return g.all[g.fetched-1], true
}

// same looks whether a driver is as its ledger says, without changing it.
func same(t *testing.T, d *Driver, g *ledger) {
	t.Helper()
	f, is := d.Next()
	if best := g.best(); f != g.out[best] || is != (best > 0) {
		t.Fatalf("Next: %v %v, want that of ticket %d, %v", f, is, best, g.out[best])
	}
	out, in := d.Waiting()
	if out != len(g.out) || in != len(g.all)-g.fetched {
		t.Fatalf("Waiting: %d %d, want %d %d", out, in, len(g.out), len(g.all)-g.fetched)
	}
	if d.Lost() != g.lost {
		t.Fatalf("Lost: %d, want %d", d.Lost(), g.lost)
	}
}

// made is a driver that must be made.
func made(t *testing.T, boxes, room int, filters ...api.Filter) *Driver {
	t.Helper()
	d, err := New(boxes, room, filters)
	if d == nil || err != api.OK {
		t.Fatalf("New(%d, %d, %v): %v %d", boxes, room, filters, d, err)
	}
	return d
}

// base is a base frame of an ID, told from others by a byte.
func base(id uint32, mark byte) api.Frame {
	return api.Frame{ID: id, Len: 1, Data: [8]byte{mark}}
}

func wantErr(t *testing.T, err, want api.Errno) {
	t.Helper()
	if err != want {
		t.Errorf("error %d, want %d", err, want)
	}
}

func wantSend(t *testing.T, d *Driver, f api.Frame, ticket int, want api.Errno) {
	t.Helper()
	if n, err := d.Send(f); n != ticket || err != want {
		t.Errorf("Send(%v): %d %d, want %d %d", f, n, err, ticket, want)
	}
}

// wantNext looks which frame is next: one, or none.
func wantNext(t *testing.T, d *Driver, want ...api.Frame) {
	t.Helper()
	f, is := d.Next()
	wantOne(t, "Next", f, is, want)
}

// wantFetch looks which frame is fetched: one, or none.
func wantFetch(t *testing.T, d *Driver, want ...api.Frame) {
	t.Helper()
	f, is := d.Fetch()
	wantOne(t, "Fetch", f, is, want)
}

func wantOne(t *testing.T, call string, f api.Frame, is bool, want []api.Frame) {
	t.Helper()
	if is != (len(want) > 0) || is && f != want[0] || !is && f != (api.Frame{}) {
		t.Errorf("%s: %v %v, want %v", call, f, is, want)
	}
}

func wantIs(t *testing.T, call string, is, want bool) {
	t.Helper()
	if is != want {
		t.Errorf("%s: %v, want %v", call, is, want)
	}
}

// wantOut looks that frames go out in an order, and no others.
func wantOut(t *testing.T, d *Driver, l ...api.Frame) {
	t.Helper()
	for _, f := range l {
		wantNext(t, d, f)
		wantIs(t, "Done", d.Done(), true)
	}
	wantNext(t, d)
	wantIs(t, "Done", d.Done(), false)
}

// wantHas looks how many frames wait on either side, and how many were lost.
func wantHas(t *testing.T, d *Driver, out, in, lost int) {
	t.Helper()
	a, b := d.Waiting()
	if a != out || b != in || d.Lost() != lost {
		t.Errorf("Waiting, Lost: %d %d, %d, want %d %d, %d", a, b, d.Lost(), out, in, lost)
	}
}

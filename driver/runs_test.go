package driver

import (
	"slices"
	"testing"

	"tramway/api"
	"tramway/frame"
)

// ids is how many identifiers the runs take: few, so that fields meet.
const ids = 1 << 5

// P5.1 to P5.3, P5.5, P5.6: runs of all calls, held against a ledger.
func TestRunsAsTheLedger(t *testing.T) {
	r := dice(51)
	for range 300 {
		boxes, room := 1+r.below(64), 1+r.below(64)
		if r.once(2) {
			boxes, room = 1+r.below(4), 1+r.below(4)
		}
		filters := make([]api.Filter, r.below(4))
		for i := range filters {
			filters[i] = r.filter(ids)
		}
		d, g := made(t, boxes, room, filters...), newLedger(boxes, room, filters)
		// Some runs fill up, some stay nearly empty.
		fill := 1 + r.below(8)
		for range 300 {
			turn(t, &r, fill, d, g)
			same(t, d, g)
		}
	}
}

// turn makes one call on a driver and on its ledger.
func turn(t *testing.T, r *dice, fill int, d *Driver, g *ledger) {
	t.Helper()
	f := r.frame(ids)
	if r.once(9) {
		f = r.bad()
	}
	wantIs(t, "Passes", d.Passes(f), g.passes(f))
	switch r.below(4 + 2*fill) {
	case 0:
		wantIs(t, "Done", d.Done(), g.drop(g.best()))
	case 1:
		ticket := r.below(g.given+4) - 1
		wantIs(t, "Drop", d.Drop(ticket), g.drop(ticket))
	case 2, 3:
		got, is := d.Fetch()
		if want, wanted := g.fetch(); got != want || is != wanted {
			t.Fatalf("Fetch: %v %v, want %v %v", got, is, want, wanted)
		}
	default:
		if r.once(2) {
			n, err := g.send(f)
			wantSend(t, d, f, n, err)
		} else {
			wantErr(t, d.Take(f), g.take(f))
		}
	}
}

// P5.4: what goes out with nothing sent in between is in the order of fields, then of tickets, and is all that is in mailboxes, also where some were dropped.
func TestOutInOrder(t *testing.T) {
	r := dice(54)
	for range 2000 {
		d := made(t, 64, 1)
		in := map[int]api.Frame{}
		for i := range 1 + r.below(64) {
			f := r.frame(ids)
			// The ticket lies in the bytes, by which each is told from the others.
			f.Remote, f.Len, f.Data = false, 1, [8]byte{byte(i + 1)}
			wantSend(t, d, f, i+1, api.OK)
			in[i+1] = f
		}
		for range r.below(10) {
			ticket := r.below(70)
			_, is := in[ticket]
			wantIs(t, "Drop", d.Drop(ticket), is)
			delete(in, ticket)
		}
		outInOrder(t, d, in)
	}
}

// outInOrder takes all out, which must be what is in, by tickets.
func outInOrder(t *testing.T, d *Driver, in map[int]api.Frame) {
	t.Helper()
	before, last := "", 0
	for range len(in) {
		f, is := d.Next()
		ticket := int(f.Data[0])
		field, _ := frame.Field(f)
		if !is || in[ticket] != f || field < before || field == before && ticket < last {
			t.Fatalf("%v %v behind field %s, ticket %d", f, is, before, last)
		}
		before, last = field, ticket
		delete(in, ticket)
		wantIs(t, "Done", d.Done(), true)
	}
	wantOut(t, d)
}

// P5.2, P5.4: where all fields are apart, Next is frame.First of all that are in mailboxes.
func TestNextIsFirst(t *testing.T) {
	r := dice(52)
	for range 300 {
		d := made(t, 64, 1)
		var l []api.Frame
		for range 64 {
			f := frame.Plain(r.frame(1 << 11))
			if _, err := frame.First(append(slices.Clone(l), f)); err == api.OK {
				l = append(l, f)
				wantSend(t, d, f, len(l), api.OK)
			}
		}
		for len(l) > 0 {
			i, _ := frame.First(l)
			wantNext(t, d, l[i])
			wantIs(t, "Done", d.Done(), true)
			l = slices.Delete(l, i, i+1)
		}
	}
}

// P5.5, P5.6: what is fetched is just what Take was well with, in that order; there is never more than there is room, and Lost counts all that was refused for want of it.
func TestFirstCome(t *testing.T) {
	r := dice(55)
	for range 200 {
		room := 1 + r.below(64)
		d := made(t, 1, room, r.filter(ids), r.filter(ids), api.Filter{ID: 1, Mask: 1})
		var took, fetched []api.Frame
		lost := 0
		for range 500 {
			f := r.frame(ids)
			switch d.Take(f) {
			case api.OK:
				took = append(took, frame.Plain(f))
			case api.ErrOverrun:
				lost++
			}
			wantHas(t, d, 0, len(took)-len(fetched), lost)
			if len(took)-len(fetched) > room {
				t.Fatalf("%d wait, room is %d", len(took)-len(fetched), room)
			}
			if !r.once(3) {
				continue
			}
			if got, is := d.Fetch(); is {
				fetched = append(fetched, got)
			}
		}
		for got, is := d.Fetch(); is; got, is = d.Fetch() {
			fetched = append(fetched, got)
		}
		if !slices.Equal(took, fetched) {
			t.Fatalf("fetched %d of %d, or in another order", len(fetched), len(took))
		}
	}
}

// P5.6: never more in mailboxes than there are; each refusal is one for want of them.
func TestNoMoreInBoxes(t *testing.T) {
	r := dice(56)
	for range 200 {
		boxes := 1 + r.below(64)
		d := made(t, boxes, 1)
		in := 0
		for range 400 {
			if r.once(3) {
				wantIs(t, "Done", d.Done(), in > 0)
				in = max(0, in-1)
			}
			_, err := d.Send(r.frame(ids))
			if (err == api.ErrBusy) != (in == boxes) {
				t.Fatalf("Send: %d with %d of %d full", err, in, boxes)
			}
			in = min(boxes, in+1)
			wantHas(t, d, in, 0, 0)
		}
	}
}

// P5.7: a frame passes filters just if it passes one of them, in whatever order they stand, and however often.
func TestAnyOfThem(t *testing.T) {
	r := dice(57)
	for range 500 {
		var filters []api.Filter
		var alone []*Driver
		for range 1 + r.below(32) {
			x := r.filter(ids)
			if r.once(2) {
				x.Mask |= 1<<11 - 1
			}
			filters = append(filters, x)
			alone = append(alone, made(t, 1, 1, x))
		}
		all := made(t, 1, 1, filters...)
		slices.Reverse(filters)
		turned := made(t, 1, 1, filters...)
		for range 50 {
			f := r.frame(ids)
			if r.once(20) {
				f = r.bad()
			}
			one := slices.ContainsFunc(alone, func(d *Driver) bool { return d.Passes(f) })
			wantIs(t, "Passes", all.Passes(f), one)
			wantIs(t, "Passes", turned.Passes(f), one)
			took := all.Take(f)
			all.Fetch()
			wantIs(t, "Take", took == api.OK, one)
		}
	}
}

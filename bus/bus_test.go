package bus

import (
	"math"
	"reflect"
	"slices"
	"testing"

	"tramway/api"
	"tramway/frame"
)

// nowhere are places at which a bus of three nodes has none.
var nowhere = []int{-1, 3, 127, math.MaxInt, math.MinInt}

// P4.2: how many nodes a bus may have; none of them has power.
func TestNew(t *testing.T) {
	for _, n := range []int{math.MinInt, -1, 0, 128, math.MaxInt} {
		if b, err := New(n); b != nil || err != api.ErrArg {
			t.Errorf("New(%d): %v %d", n, b, err)
		}
	}
	for _, n := range []int{1, 2, 127} {
		b, err := New(n)
		if err != api.OK || b.Time() != 0 {
			t.Fatalf("New(%d): %d", n, err)
		}
		for i := range n {
			wantErr(t, b.Submit(i, api.Frame{}), api.ErrOff)
			wantWaiting(t, b, i)
			wantGot(t, b, i)
			wantCounts(t, b, i, api.Active, 0, 0)
		}
		wantErr(t, b.Power(n-1, true), api.OK)
		wantErr(t, b.Submit(n-1, api.Frame{}), api.OK)
		wantErr(t, b.Power(n, true), api.ErrArg)
	}
}

// P4.2, P4.4: a node that there is not, in each call.
func TestNoSuchNode(t *testing.T) {
	b := powered(t, 3)
	b.Submit(2, api.Frame{ID: 1})
	step(t, b)
	b.Submit(2, api.Frame{ID: 2})
	for _, i := range nowhere {
		wantErr(t, b.Power(i, true), api.ErrArg)
		wantErr(t, b.Power(i, false), api.ErrArg)
		wantErr(t, b.Submit(i, api.Frame{}), api.ErrArg)
		wantErr(t, b.Submit(i, api.Frame{Len: 16}), api.ErrArg)
		if b.Cancel(i) {
			t.Errorf("Cancel(%d)", i)
		}
		wantWaiting(t, b, i)
		if l, err := b.Fetch(i); len(l) != 0 || err != api.ErrArg {
			t.Errorf("Fetch(%d): %v %d", i, l, err)
		}
		if u, err := b.Fault(i); u != nil || err != api.ErrArg {
			t.Errorf("Fault(%d): %v %d", i, u, err)
		}
	}
	wantWaiting(t, b, 2, api.Frame{ID: 2})
	wantGot(t, b, 0, api.Frame{ID: 1})
}

// P4.2: what Submit refuses, and in which order; what it takes is Plain.
func TestSubmit(t *testing.T) {
	b, _ := New(2)
	bad := []api.Frame{{ID: 1 << 11}, {ID: 1 << 29, Extended: true}, {Len: 16}, {Len: -1}}
	for _, f := range bad {
		wantErr(t, b.Submit(0, f), api.ErrArg)
	}
	wantErr(t, b.Submit(0, api.Frame{}), api.ErrOff)
	b.Power(0, true)
	f := api.Frame{ID: 5, Len: 2, Data: [8]byte{1, 2, 3, 4}}
	wantErr(t, b.Submit(0, f), api.OK)
	wantWaiting(t, b, 0, frame.Plain(f))
	for _, g := range bad {
		wantErr(t, b.Submit(0, g), api.ErrArg)
	}
	wantErr(t, b.Submit(0, f), api.ErrBusy)
	wantErr(t, b.Submit(0, api.Frame{}), api.ErrBusy)
	wantWaiting(t, b, 0, frame.Plain(f))
	wantWaiting(t, b, 1)
	// Off goes ahead of a frame that waits.
	u, _ := b.Fault(0)
	for range 32 {
		u.Failed(false)
	}
	wantErr(t, b.Submit(0, f), api.ErrOff)
	wantErr(t, b.Submit(0, bad[0]), api.ErrArg)
	wantWaiting(t, b, 0, frame.Plain(f))
	// A remote frame has a Len and no bytes.
	b.Power(1, true)
	wantErr(t, b.Submit(1, api.Frame{Remote: true, Len: 15, Data: [8]byte{9}}), api.OK)
	wantWaiting(t, b, 1, api.Frame{Remote: true, Len: 15})
}

// P4.2: Cancel and Waiting, with something to send and with nothing.
func TestCancel(t *testing.T) {
	b := powered(t, 3)
	f := api.Frame{ID: 7, Len: 1, Data: [8]byte{3}}
	if b.Cancel(0) {
		t.Error("Cancel with nothing to send")
	}
	b.Submit(0, f)
	b.Submit(1, api.Frame{ID: 8})
	if !b.Cancel(0) || b.Cancel(0) {
		t.Error("Cancel")
	}
	wantWaiting(t, b, 0)
	wantWaiting(t, b, 1, api.Frame{ID: 8})
	if o := step(t, b); o.Winner != 1 {
		t.Error(o)
	}
	wantErr(t, b.Submit(0, f), api.OK)
	step(t, b)
	if b.Cancel(0) {
		t.Error("Cancel of what is sent")
	}
	wantGot(t, b, 2, api.Frame{ID: 8}, f)
}

// P4.2: power that changes takes all that waits and resets the unit; power that changes nothing does nothing.
func TestPower(t *testing.T) {
	f, g := api.Frame{ID: 1}, api.Frame{ID: 2}
	// laden is a bus whose node 0 has something to send, something to be fetched, and counts.
	laden := func() *Bus {
		b := powered(t, 3)
		u, _ := b.Fault(0)
		u.Failed(false)
		u.Erred(true)
		b.Submit(1, f)
		step(t, b)
		b.Submit(0, g)
		return b
	}
	b := laden()
	wantErr(t, b.Power(0, true), api.OK)
	wantWaiting(t, b, 0, g)
	wantCounts(t, b, 0, api.Active, 8, 7)
	wantGot(t, b, 0, f)

	b = laden()
	u, _ := b.Fault(0)
	wantErr(t, b.Power(0, false), api.OK)
	wantWaiting(t, b, 0)
	wantCounts(t, b, 0, api.Active, 0, 0)
	wantGot(t, b, 0)
	if v, _ := b.Fault(0); v != u {
		t.Error("another unit")
	}
	wantErr(t, b.Submit(0, f), api.ErrOff)
	// Without power a unit may be told things; the next change resets it.
	u.Erred(false)
	wantErr(t, b.Power(0, false), api.OK)
	wantCounts(t, b, 0, api.Active, 0, 1)
	wantErr(t, b.Power(0, true), api.OK)
	wantCounts(t, b, 0, api.Active, 0, 0)
	wantWaiting(t, b, 0)
	wantGot(t, b, 0)
	wantErr(t, b.Submit(0, g), api.OK)

	// The other nodes keep what they have.
	b = laden()
	b.Submit(1, f)
	b.Power(0, false)
	wantWaiting(t, b, 1, f)
	wantGot(t, b, 2, f)
	// A unit that is Off is Active again with power off and on.
	u, _ = b.Fault(1)
	for range 32 {
		u.Failed(false)
	}
	b.Power(1, false)
	b.Power(1, true)
	wantCounts(t, b, 1, api.Active, 0, 0)
	wantErr(t, b.Submit(1, f), api.OK)
}

// P4.3: a frame that goes well, and what the units make of it; Time.
func TestStep(t *testing.T) {
	b := powered(t, 3)
	f := api.Frame{ID: 5, Len: 1, Data: [8]byte{6, 7}}
	b.Submit(2, f)
	for i := range 3 {
		u, _ := b.Fault(i)
		u.Failed(false)
		u.Erred(true)
	}
	length := lengthOf(f)
	want := api.Outcome{Winner: 2, Bits: length + 3, Sent: true, Errs: make([]api.Errno, 3), Got: []bool{true, true, false}}
	if o := step(t, b); !reflect.DeepEqual(o, want) {
		t.Errorf("%v, want %v", o, want)
	}
	wantWaiting(t, b, 2)
	wantCounts(t, b, 0, api.Active, 8, 7)
	wantCounts(t, b, 1, api.Active, 8, 7)
	wantCounts(t, b, 2, api.Active, 7, 8)
	if b.Time() != uint64(length+3) {
		t.Error(b.Time())
	}
	if o := step(t, b); o.Winner != -1 || o.Bits != 11 || len(o.Errs) != 3 || len(o.Got) != 3 || b.Time() != uint64(length+14) {
		t.Error(o, b.Time())
	}
	wantCounts(t, b, 0, api.Active, 8, 7)
	wantGot(t, b, 0, frame.Plain(f))
	wantGot(t, b, 1, frame.Plain(f))
	wantGot(t, b, 2)
}

// P4.3: flips, and what each unit makes of them.
func TestStepFlips(t *testing.T) {
	b := powered(t, 4)
	b.Power(3, false)
	f := api.Frame{ID: 5}
	length := lengthOf(f)
	b.Submit(0, f)
	// Another node's flip: it is late, the winner fails, the third errs.
	o := step(t, b, 1, 7)
	if o.Sent || o.Bits != 31 || !slices.Equal(o.Errs, []api.Errno{stuff, stuff, stuff, ok}) {
		t.Error(o)
	}
	wantCounts(t, b, 0, api.Active, 8, 0)
	wantCounts(t, b, 1, api.Active, 0, 8)
	wantCounts(t, b, 2, api.Active, 0, 1)
	wantCounts(t, b, 3, api.Active, 0, 0)
	wantWaiting(t, b, 0, f)
	// The winner's own flip: nobody else is late.
	step(t, b, 0, 7, 1, 8)
	wantCounts(t, b, 0, api.Active, 16, 0)
	wantCounts(t, b, 1, api.Active, 0, 9)
	wantCounts(t, b, 2, api.Active, 0, 2)
	// Two flips of one bit: the least node's is the first one.
	step(t, b, 2, length-2, 1, length-2)
	wantCounts(t, b, 1, api.Active, 0, 17)
	wantCounts(t, b, 2, api.Active, 0, 3)
	// A node without power flips nothing.
	step(t, b, 3, 0)
	wantCounts(t, b, 0, api.Active, 23, 0)
	wantCounts(t, b, 1, api.Active, 0, 16)
	wantWaiting(t, b, 0)
	if b.Time() != uint64(31+31+length-2+24+length+3) {
		t.Error(b.Time())
	}
}

// P4.3: what is refused; nothing is changed then.
func TestStepWrong(t *testing.T) {
	b := powered(t, 3)
	b.Submit(0, api.Frame{ID: 5})
	u, _ := b.Fault(1)
	for range 32 {
		u.Failed(false)
	}
	many := make([]api.Flip, api.MaxBits+1)
	many[0].Node = 3
	wrong := map[api.Errno][][]api.Flip{
		api.ErrArg:  {flip(-1, 0), flip(3, 0), flip(0, -1), flip(0, 5, 2, math.MinInt), many[:api.MaxBits]},
		api.ErrLong: {many, make([]api.Flip, api.MaxBits+1)},
	}
	for want, l := range wrong {
		for _, flips := range l {
			for range 200 {
				o, err := b.Step(flips)
				if err != want || !reflect.DeepEqual(o, api.Outcome{}) {
					t.Fatalf("Step: %v %d, want %d", o, err, want)
				}
				if len(flips) > 9 {
					break
				}
			}
		}
	}
	if b.Time() != 0 || u.State() != api.Off {
		t.Error("a Step that was refused took time")
	}
	wantWaiting(t, b, 0, api.Frame{ID: 5})
	wantGot(t, b, 2)
	if o, err := b.Step(slices.Repeat(flip(2, math.MaxInt), api.MaxBits)); err != api.OK || !o.Sent {
		t.Error(o, err)
	}
}

// P4.3: of nodes with the same arbitration field only the least one sends.
func TestSameField(t *testing.T) {
	b := powered(t, 5)
	a, c := api.Frame{ID: 5, Len: 1, Data: [8]byte{1}}, api.Frame{ID: 5, Len: 8, Data: [8]byte{2}}
	b.Submit(3, a)
	b.Submit(1, c)
	b.Submit(4, a)
	b.Submit(2, api.Frame{ID: 5, Remote: true})
	for _, want := range []int{1, 3, 4, 2} {
		if o := step(t, b); o.Winner != want || !o.Sent {
			t.Fatal(o, want)
		}
	}
	wantGot(t, b, 0, c, a, a, api.Frame{ID: 5, Remote: true})
	wantGot(t, b, 3, c, a, api.Frame{ID: 5, Remote: true})

	// One that takes no part is not the least one.
	b.Submit(1, a)
	b.Submit(3, c)
	u, _ := b.Fault(1)
	for range 32 {
		u.Failed(false)
	}
	if o := step(t, b); o.Winner != 3 || !o.Sent {
		t.Error(o)
	}
	// A frame taken back makes room for the next one.
	b.Submit(0, a)
	b.Submit(3, c)
	b.Cancel(0)
	if o := step(t, b); o.Winner != 3 {
		t.Error(o)
	}
}

// P4.3, P4.4: at most 64 frames wait to be fetched; the 65th is lost, but Received all the same.
func TestFull(t *testing.T) {
	b := powered(t, 3)
	u, _ := b.Fault(1)
	for range 10 {
		u.Erred(true)
	}
	var want []api.Frame
	for i := range 66 {
		f := api.Frame{ID: uint32(i)}
		want = append(want, f)
		b.Submit(0, f)
		if o := step(t, b); !o.Sent || !o.Got[1] {
			t.Fatal(i, o)
		}
		if i == 63 {
			wantCounts(t, b, 1, api.Active, 0, 16)
			wantGot(t, b, 2, want...)
		}
	}
	wantCounts(t, b, 1, api.Active, 0, 14)
	wantGot(t, b, 1, want[:64]...)
	wantGot(t, b, 1)
	wantGot(t, b, 2, want[64:]...)
	b.Submit(0, want[0])
	step(t, b)
	wantGot(t, b, 1, want[0])
}

// P4.4: frames fetched in parts, in order; what was fetched is the asker's own.
func TestFetch(t *testing.T) {
	b := powered(t, 2)
	send := func(id uint32) api.Frame {
		f := api.Frame{ID: id}
		b.Submit(0, f)
		step(t, b)
		return f
	}
	x, y := send(9), send(3)
	l, err := b.Fetch(1)
	if err != api.OK || !slices.Equal(l, []api.Frame{x, y}) {
		t.Fatal(l, err)
	}
	wantGot(t, b, 1)
	z := send(5)
	_ = append(l, api.Frame{ID: 99}, api.Frame{ID: 98})
	l[0].ID = 77
	v := send(5)
	wantGot(t, b, 1, z, v)
	if l[0].ID != 77 || l[1] != y {
		t.Error("what was fetched is not the asker's own")
	}
}

// P4.4: the unit is the one that the bus asks and tells.
func TestFault(t *testing.T) {
	b := powered(t, 3)
	u, err := b.Fault(1)
	v, _ := b.Fault(1)
	w, _ := b.Fault(2)
	if err != api.OK || u != v || u == w {
		t.Fatal("units")
	}
	b.Submit(1, api.Frame{ID: 3})
	for range 32 {
		u.Failed(false)
	}
	// Off from outside: it takes no part, and its frame goes with the next Step.
	wantWaiting(t, b, 1, api.Frame{ID: 3})
	if o := step(t, b, 1, 3); o.Winner != -1 {
		t.Error(o)
	}
	wantWaiting(t, b, 1)
	b.Submit(0, api.Frame{ID: 4})
	if o := step(t, b, 1, 3); !o.Sent || o.Got[1] || !o.Got[2] {
		t.Error(o)
	}
	wantGot(t, b, 1)
	u.Reset()
	wantErr(t, b.Submit(1, api.Frame{ID: 3}), api.OK)
}

// P4.3: the 32nd failure of a node that has a frame: it is Off, its frame is gone.
func TestGoesOff(t *testing.T) {
	b := powered(t, 2)
	f := api.Frame{ID: 3}
	b.Submit(1, f)
	for i := range 31 {
		step(t, b, 1, 7)
		wantWaiting(t, b, 1, f)
		wantErr(t, b.Submit(1, f), api.ErrBusy)
		if i == 30 {
			wantCounts(t, b, 1, api.Passive, 248, 0)
		}
	}
	if o := step(t, b, 1, 7); o.Winner != 1 || o.Errs[1] != stuff {
		t.Error(o)
	}
	wantCounts(t, b, 1, api.Off, 256, 0)
	wantWaiting(t, b, 1)
	wantErr(t, b.Submit(1, f), api.ErrOff)
	// Nobody hears the other one now.
	b.Submit(0, f)
	if o := step(t, b); o.Errs[0] != api.ErrAck || o.Got[1] {
		t.Error(o)
	}
}

// P4.3: a unit that is Off is back with the 128th Step, whether somebody won or not; the Step with which it went off is none of them.
func TestComesBack(t *testing.T) {
	for _, busy := range []bool{false, true} {
		b := powered(t, 4)
		b.Submit(1, api.Frame{ID: 3})
		for range 32 {
			step(t, b, 1, 7)
		}
		u, _ := b.Fault(3)
		b.Power(3, false)
		for range 32 {
			u.Failed(false)
		}
		for i := range 127 {
			if busy {
				b.Submit(0, api.Frame{ID: uint32(i)})
			}
			if o := step(t, b, 1, 7); busy && (!o.Sent || o.Got[1] || !o.Got[2]) {
				t.Fatal(o)
			}
			wantErr(t, b.Submit(1, api.Frame{}), api.ErrOff)
		}
		wantCounts(t, b, 1, api.Off, 256, 0)
		if busy {
			b.Submit(0, api.Frame{})
		}
		// It comes back behind the round, in which it took no part.
		if o := step(t, b); o.Got[1] {
			t.Error(o)
		}
		wantCounts(t, b, 1, api.Active, 0, 0)
		wantGot(t, b, 1)
		wantErr(t, b.Submit(1, api.Frame{ID: 6}), api.OK)
		if o := step(t, b); !o.Sent || o.Winner != 1 {
			t.Error(o)
		}
		// Without power no row is seen.
		wantCounts(t, b, 3, api.Off, 256, 0)
	}
}

// P4.3: a frame that waits while its unit comes back with this very Step is not gone.
func TestBackWithAFrame(t *testing.T) {
	b := powered(t, 2)
	f := api.Frame{ID: 3}
	b.Submit(1, f)
	u, _ := b.Fault(1)
	for range 32 {
		u.Failed(false)
	}
	u.Idle(127)
	if o := step(t, b); o.Winner != -1 {
		t.Error(o)
	}
	wantWaiting(t, b, 1, f)
	if o := step(t, b); !o.Sent || o.Winner != 1 {
		t.Error(o)
	}
}

// P4.3, example 1: one node alone is never acknowledged: for ever Passive, never Off, and its frame waits.
func TestAlone(t *testing.T) {
	for _, nodes := range []int{1, 2} {
		b, _ := New(nodes)
		b.Power(0, true)
		f := api.Frame{ID: 1}
		b.Submit(0, f)
		for i := range 1000 {
			o := step(t, b)
			if o.Sent || o.Winner != 0 || o.Errs[0] != api.ErrAck {
				t.Fatal(i, o)
			}
			sending := min(8*(i+1), 128)
			state := api.Active
			if sending > 127 {
				state = api.Passive
			}
			wantCounts(t, b, 0, state, sending, 0)
			wantWaiting(t, b, 0, f)
		}
		if b.Time() != uint64(1000*(lengthOf(f)-8+20)) {
			t.Error(b.Time())
		}
		if nodes == 2 {
			b.Power(1, true)
			if o := step(t, b); !o.Sent || !o.Got[1] {
				t.Error(o)
			}
			wantCounts(t, b, 0, api.Active, 127, 0)
			wantGot(t, b, 1, f)
		}
	}
	// Failures other than that are not quiet: they bring it off the bus.
	b := powered(t, 1)
	b.Submit(0, api.Frame{ID: 1})
	for range 32 {
		step(t, b, 0, 3)
	}
	wantCounts(t, b, 0, api.Off, 256, 0)
}

// P4.2 to P4.4: long runs of calls of a dice, held against a second telling.
func TestManyCalls(t *testing.T) {
	d := dice(43)
	for range 100 {
		nodes := 1 + d.below(5)
		b, _ := New(nodes)
		g := newLedger(nodes)
		for range 400 {
			oneCall(t, &d, b, g)
			same(t, b, g)
			if t.Failed() {
				return
			}
		}
	}
}

// oneCall makes one call of a dice on both.
func oneCall(t *testing.T, d *dice, b *Bus, g *ledger) {
	i := d.below(g.nodes)
	switch d.below(20) {
	case 0, 1:
		on := !d.once(4)
		wantErr(t, b.Power(i, on), api.OK)
		g.turn(i, on)
	case 2, 3, 4, 5, 6:
		f := d.frame(6)
		if d.once(20) {
			f.Len = 16
		}
		wantErr(t, b.Submit(i, f), g.submit(i, f))
	case 7:
		_, had := g.out[i]
		if d.once(3) {
			if b.Cancel(i) != had {
				t.Error("Cancel")
			}
			delete(g.out, i)
		}
	case 8:
		wantGot(t, b, i, g.got[i]...)
		delete(g.got, i)
	case 9:
		u, _ := b.Fault(i)
		for range []int{1, 1, 31, 127}[d.below(4)] {
			u.Failed(false)
			g.units[i].Failed(false)
		}
	default:
		length := 60
		l := g.senders()
		if w := winnerOf(l); w >= 0 {
			length = lengthOf(l[w].Frame)
		}
		for range []int{1, 1, 1, 70}[d.below(4)] {
			flips := d.flips(g.nodes, length)
			o, err := b.Step(flips)
			if want := g.step(flips); err != api.OK || !reflect.DeepEqual(o, want) {
				t.Errorf("Step(%v): %v %d, want %v", flips, o, err, want)
			}
			if d.once(3) {
				f := d.frame(6)
				wantErr(t, b.Submit(i, f), g.submit(i, f))
			}
		}
	}
}

// P4.7: without flips, with two that take part, all frames that wait are sent, the first ones first, in as many Steps.
func TestInTheEnd(t *testing.T) {
	d := dice(47)
	for range 400 {
		nodes := 2 + d.below(20)
		b, _ := New(nodes)
		b.Power(0, true)
		b.Power(nodes-1, true)
		for i := range nodes {
			b.Power(i, i == 0 || i == nodes-1 || d.once(2))
		}
		var waiting []api.Frame
		for i := range nodes {
			if f := d.frame(8); d.once(2) && b.Submit(i, f) == api.OK {
				waiting = append(waiting, frame.Plain(f))
			}
		}
		for range waiting {
			o, err := b.Step(nil)
			if err != api.OK || !o.Sent {
				t.Fatal(o, err)
			}
		}
		for i := range nodes {
			wantWaiting(t, b, i)
		}
		if o := step(t, b); o.Winner != -1 {
			t.Fatal(o)
		}
		inOrder(t, b, nodes, waiting)
	}
}

// inOrder looks whether what the nodes fetch is in the order of the fields, and each has all frames but its own.
func inOrder(t *testing.T, b *Bus, nodes int, sent []api.Frame) {
	t.Helper()
	for _, i := range []int{0, nodes - 1} {
		l, _ := b.Fetch(i)
		if len(l) != len(sent) && len(l) != len(sent)-1 {
			t.Fatalf("%d frames of %d", len(l), len(sent))
		}
		left := slices.Clone(sent)
		before := ""
		for _, f := range l {
			field, _ := frame.Field(f)
			at := slices.Index(left, f)
			if field < before || at < 0 {
				t.Fatal(l, sent)
			}
			before, left = field, slices.Delete(left, at, at+1)
		}
	}
}

// P4.8: a node without power changes nothing, whatever it was before and whatever it flips.
func TestApart(t *testing.T) {
	d := dice(88)
	for range 200 {
		nodes := 1 + d.below(4)
		narrow := powered(t, nodes)
		wide := powered(t, nodes+1)
		wide.Submit(nodes, api.Frame{})
		wide.Power(nodes, false)
		for range 100 {
			i, f := d.below(nodes), d.frame(5)
			wantErr(t, wide.Submit(i, f), narrow.Submit(i, f))
			flips := d.flips(nodes, 70)
			o, _ := narrow.Step(flips)
			p, err := wide.Step(slices.Concat(flip(nodes, 0, nodes, 40), flips))
			if err != api.OK || p.Got[nodes] || p.Errs[nodes] != api.OK {
				t.Fatal(p, err)
			}
			p.Got, p.Errs = p.Got[:nodes], p.Errs[:nodes]
			if !reflect.DeepEqual(o, p) || narrow.Time() != wide.Time() {
				t.Fatal(o, p)
			}
			a, _ := narrow.Fetch(i)
			wantGot(t, wide, i, a...)
		}
		wantGot(t, wide, nodes)
	}
}

// P4.10: where the winner's last bit is flipped, all others get the frame twice.
func TestTwice(t *testing.T) {
	b := powered(t, 4)
	b.Power(3, false)
	f := api.Frame{ID: 1, Len: 1, Data: [8]byte{4}}
	last := lengthOf(f) - 1
	b.Submit(1, f)
	o := step(t, b, 1, last)
	if o.Sent || o.Errs[1] != fixed || !slices.Equal(o.Got, []bool{true, false, true, false}) || o.Bits != last+21 {
		t.Error(o)
	}
	wantCounts(t, b, 1, api.Active, 8, 0)
	wantCounts(t, b, 0, api.Active, 0, 0)
	wantWaiting(t, b, 1, f)
	if o := step(t, b, 0, last); !o.Sent {
		t.Error(o)
	}
	wantCounts(t, b, 1, api.Active, 7, 0)
	wantWaiting(t, b, 1)
	wantGot(t, b, 0, f, f)
	wantGot(t, b, 2, f, f)
	wantGot(t, b, 1)
	wantGot(t, b, 3)
}

// Example 1: two nodes, one sends: Sent, Got.
func TestExample(t *testing.T) {
	b := powered(t, 2)
	b.Submit(0, api.Frame{ID: 7})
	if o := step(t, b); !o.Sent || o.Winner != 0 || !o.Got[1] {
		t.Error(o)
	}
	wantGot(t, b, 1, api.Frame{ID: 7})
}

// Two buses know nothing of one another.
func TestTwoBuses(t *testing.T) {
	a, b := powered(t, 2), powered(t, 2)
	a.Submit(0, api.Frame{ID: 7})
	step(t, b)
	wantWaiting(t, b, 0)
	if o := step(t, a); !o.Sent {
		t.Error(o)
	}
	wantGot(t, b, 1)
	if b.Time() != 11 {
		t.Error(b.Time())
	}
}

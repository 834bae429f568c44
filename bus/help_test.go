package bus

import (
	"maps"
	"math"
	"reflect"
	"slices"
	"testing"

	"tramway/api"
	"tramway/fault"
	"tramway/frame"
)

// dice is a source of numbers that are the same at each run.
type dice uint64

func (d *dice) next() uint64 {
	*d ^= *d << 13
	*d ^= *d >> 7
	*d ^= *d << 17
	return uint64(*d)
}

// below is a number from 0 to n, less 1.
func (d *dice) below(n int) int { return int(d.next() % uint64(n)) }

func (d *dice) once(in int) bool { return d.below(in) == 0 }

// frame is a frame that can be, of so many identifiers, so that fields meet.
func (d *dice) frame(ids int) api.Frame {
	f := api.Frame{ID: uint32(d.below(ids)), Extended: d.once(3), Remote: d.once(4), Len: d.below(16)}
	if f.Extended && d.once(2) {
		f.ID <<= 18
	}
	for i := range f.Data {
		f.Data[i] = byte(d.next())
	}
	return f
}

// senders are nodes of a round whose fields are all apart.
func (d *dice) senders(n int) []api.Sender {
	l := make([]api.Sender, n)
	used := map[string]bool{}
	for i := range l {
		l[i] = api.Sender{Up: !d.once(4), Sends: d.once(2), Frame: d.frame(1 << 10)}
		field, _ := frame.Field(l[i].Frame)
		if used[field] {
			l[i].Sends = false
		}
		used[field] = true
	}
	return l
}

// flips are flips of n nodes, many of them at the edges of a frame of so many bits.
func (d *dice) flips(n, length int) []api.Flip {
	var l []api.Flip
	for range d.below(5) {
		f := api.Flip{Node: d.below(n), Bit: d.below(length + 4)}
		if d.once(2) {
			f.Bit = max(0, length-12+d.below(14))
		}
		if d.once(9) {
			f.Bit = []int{0, math.MaxInt}[d.below(2)]
		}
		l = append(l, f)
	}
	return l
}

// lengthOf is how many bits a frame has.
func lengthOf(f api.Frame) int {
	s, _ := frame.Encode(f, true)
	return len(s)
}

// winnerOf is the one with the least field of those that take part and send, or -1.
func winnerOf(l []api.Sender) int {
	winner, least := -1, ""
	for i, n := range l {
		field, _ := frame.Field(n.Frame)
		if n.Up && n.Sends && (winner < 0 || field < least) {
			winner, least = i, field
		}
	}
	return winner
}

// told is a round of frames that can be, with fields apart, bit by bit in time; and the first flip's node, or -1.
func told(l []api.Sender, flips []api.Flip) (api.Outcome, int) {
	o := api.Outcome{Winner: winnerOf(l), Bits: 11, Errs: make([]api.Errno, len(l)), Got: make([]bool, len(l))}
	if o.Winner < 0 {
		return o, -1
	}
	up := map[int]bool{}
	for i, n := range l {
		if n.Up {
			up[i] = true
		}
	}
	there := map[api.Flip]bool{}
	for _, f := range flips {
		there[f] = true
	}
	length := lengthOf(l[o.Winner].Frame)
	for bit := range length - 1 {
		for i := range l {
			if !up[i] || !there[api.Flip{Node: i, Bit: bit}] {
				continue
			}
			for j := range up {
				o.Errs[j] = api.ErrStuff
			}
			if length-bit <= 10 {
				o.Errs[i] = api.ErrFixed
			}
			o.Bits = bit + 24
			return o, i
		}
	}
	delete(up, o.Winner)
	if len(up) == 0 {
		o.Errs[o.Winner] = api.ErrAck
		o.Bits = length - 8 + 20
		return o, -1
	}
	for j := range up {
		o.Got[j] = true
	}
	o.Sent, o.Bits = true, length+3
	if there[api.Flip{Node: o.Winner, Bit: length - 1}] {
		o.Sent, o.Bits, o.Errs[o.Winner] = false, length+20, api.ErrFixed
	}
	return o, -1
}

// ledger is a bus written otherwise: a map for each thing that a node may have.
type ledger struct {
	nodes int
	units []fault.Unit
	power map[int]bool
	out   map[int]api.Frame
	got   map[int][]api.Frame
	time  int
}

func newLedger(nodes int) *ledger {
	return &ledger{nodes, make([]fault.Unit, nodes), map[int]bool{}, map[int]api.Frame{}, map[int][]api.Frame{}, 0}
}

func (g *ledger) turn(i int, on bool) {
	if g.power[i] == on {
		return
	}
	g.power[i] = on
	g.units[i] = fault.Unit{}
	delete(g.out, i)
	delete(g.got, i)
}

func (g *ledger) submit(i int, f api.Frame) api.Errno {
	_, busy := g.out[i]
	switch {
	case i < 0 || i >= g.nodes || frame.Check(f) != api.OK:
		return api.ErrArg
	case !g.power[i] || g.units[i].State() == api.Off:
		return api.ErrOff
	case busy:
		return api.ErrBusy
	}
	g.out[i] = frame.Plain(f)
	return api.OK
}

func (g *ledger) senders() []api.Sender {
	l := make([]api.Sender, g.nodes)
	for i := range l {
		l[i].Up = g.power[i] && g.units[i].State() != api.Off
		f, is := g.out[i]
		mine, _ := frame.Field(f)
		for j := range i {
			other, _ := frame.Field(l[j].Frame)
			is = is && !(l[j].Sends && other == mine)
		}
		if is && l[i].Up {
			l[i].Sends, l[i].Frame = true, f
		}
	}
	return l
}

func (g *ledger) step(flips []api.Flip) api.Outcome {
	o, late := told(g.senders(), flips)
	g.time += o.Bits
	for i := range g.power {
		if g.power[i] {
			g.units[i].Idle(1)
		}
	}
	for i := range g.nodes {
		u := &g.units[i]
		if o.Got[i] {
			u.Received()
			g.got[i] = append(g.got[i], g.out[o.Winner])
			g.got[i] = g.got[i][:min(64, len(g.got[i]))]
		}
		if o.Errs[i] != api.OK && i == o.Winner {
			u.Failed(o.Errs[i] == api.ErrAck)
		}
		if o.Errs[i] != api.OK && i != o.Winner {
			u.Erred(i == late)
		}
	}
	if o.Sent {
		g.units[o.Winner].Sent()
		delete(g.out, o.Winner)
	}
	maps.DeleteFunc(g.out, func(i int, _ api.Frame) bool { return g.units[i].State() == api.Off })
	return o
}

// same looks whether a bus is as its ledger says, without changing it.
func same(t *testing.T, b *Bus, g *ledger) {
	t.Helper()
	for i := range g.nodes {
		f, is := b.Waiting(i)
		want, wanted := g.out[i]
		if f != want || is != wanted {
			t.Fatalf("Waiting(%d): %v %v, want %v %v", i, f, is, want, wanted)
		}
		u, err := b.Fault(i)
		if err != api.OK || *u != g.units[i] {
			t.Fatalf("Fault(%d): %v %d, want %v", i, u, err, g.units[i])
		}
	}
	if b.Time() != uint64(g.time) {
		t.Fatalf("Time: %d, want %d", b.Time(), g.time)
	}
}

// up is a node that takes part.
var up = api.Sender{Up: true}

// sends is a node that takes part and sends.
func sends(f api.Frame) api.Sender { return api.Sender{Up: true, Sends: true, Frame: f} }

// flip is one flip, or several: node, bit, node, bit ..
func flip(pairs ...int) []api.Flip {
	var l []api.Flip
	for p := range slices.Chunk(pairs, 2) {
		l = append(l, api.Flip{Node: p[0], Bit: p[1]})
	}
	return l
}

// wantRound looks whether a round has an outcome.
func wantRound(t *testing.T, l []api.Sender, flips []api.Flip, want api.Outcome) {
	t.Helper()
	o, err := Round(l, flips)
	if err != api.OK || !reflect.DeepEqual(o, want) {
		t.Errorf("Round(%v, %v): %v %d, want %v", l, flips, o, err, want)
	}
}

// wantNoRound looks whether a round is refused, with the zero outcome.
func wantNoRound(t *testing.T, l []api.Sender, flips []api.Flip, want api.Errno) {
	t.Helper()
	o, err := Round(l, flips)
	if err != want || !reflect.DeepEqual(o, api.Outcome{}) {
		t.Errorf("Round of %d nodes, %d flips: %v %d, want %d", len(l), len(flips), o, err, want)
	}
}

// powered is a bus whose nodes all have power.
func powered(t *testing.T, nodes int) *Bus {
	t.Helper()
	b, err := New(nodes)
	if err != api.OK {
		t.Fatalf("New(%d): %d", nodes, err)
	}
	for i := range nodes {
		wantErr(t, b.Power(i, true), api.OK)
	}
	return b
}

func wantErr(t *testing.T, err, want api.Errno) {
	t.Helper()
	if err != want {
		t.Errorf("error %d, want %d", err, want)
	}
}

// step is a Step that must go.
func step(t *testing.T, b *Bus, flips ...int) api.Outcome {
	t.Helper()
	o, err := b.Step(flip(flips...))
	if err != api.OK {
		t.Fatalf("Step(%v): %d", flips, err)
	}
	return o
}

// wantGot looks what a node fetches.
func wantGot(t *testing.T, b *Bus, node int, want ...api.Frame) {
	t.Helper()
	l, err := b.Fetch(node)
	if err != api.OK || !slices.Equal(l, want) {
		t.Errorf("Fetch(%d): %v %d, want %v", node, l, err, want)
	}
}

// wantWaiting looks what a node has to send: one frame, or none.
func wantWaiting(t *testing.T, b *Bus, node int, want ...api.Frame) {
	t.Helper()
	f, is := b.Waiting(node)
	if is != (len(want) > 0) || is && f != want[0] || !is && f != (api.Frame{}) {
		t.Errorf("Waiting(%d): %v %v, want %v", node, f, is, want)
	}
}

// wantCounts looks at a node's state and counts.
func wantCounts(t *testing.T, b *Bus, node, state, sending, receiving int) {
	t.Helper()
	u, err := b.Fault(node)
	if err != api.OK {
		t.Fatalf("Fault(%d): %d", node, err)
	}
	s, r := u.Counts()
	if u.State() != state || s != sending || r != receiving {
		t.Errorf("node %d: state %d, counts %d %d, want %d, %d %d", node, u.State(), s, r, state, sending, receiving)
	}
}

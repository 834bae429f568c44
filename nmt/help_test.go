package nmt

import (
	"math"
	"testing"

	"tramway/api"
)

// The errors, by hand.
const (
	ok     api.Errno = 0
	errArg api.Errno = 1
)

// The states, and the commands, by hand.
const (
	boot  = 0
	stop  = 4
	run   = 5
	ready = 127

	toRun   = 1
	toStop  = 2
	toReady = 128
	toBoot  = 129
	toTalk  = 130
)

var commands = []int{toRun, toStop, toReady, toBoot, toTalk}

// leads is the state to which each command leads.
var leads = map[int]int{toRun: run, toStop: stop, toReady: ready, toBoot: boot, toTalk: boot}

// badNumbers are no numbers of nodes; the low bytes of some of them are.
var badNumbers = []int{math.MinInt, -1 << 32, -256, -127, -1, 128, 129, 255, 256, 261, 1 << 31, 1 << 32, 1<<32 + 5, 1<<32 + 127, math.MaxInt}

// act is what happened to a node: it stepped, was given a number, or took a command.
type act struct {
	kind    int
	number  int  // that it was given, or the command
	atBegin bool // whether it was Boot just ahead of it
}

const (
	stepped = iota
	numbered
	took
)

// clerk is a node written otherwise: it keeps all that happened, and looks back.
type clerk struct {
	first int // the number with which it was made
	acts  []act
}

func (k *clerk) note(kind, number int) {
	k.acts = append(k.acts, act{kind, number, k.state() == boot})
}

// state: that of the last step or command; numbers play no part.
func (k *clerk) state() int {
	for i := len(k.acts) - 1; i >= 0; i-- {
		switch x := k.acts[i]; x.kind {
		case stepped:
			return ready
		case took:
			return leads[x.number]
		}
	}
	return boot
}

// id: the last number that it was given while it was Boot, or ahead of a beginning.
func (k *clerk) id() int {
	begun := false
	for i := len(k.acts) - 1; i >= 0; i-- {
		x := k.acts[i]
		if x.kind == numbered && (begun || x.atBegin) {
			return x.number
		}
		begun = begun || x.kind == took && x.number > toReady
	}
	return k.first
}

// times: how often it took a command.
func (k *clerk) times(command int) int {
	n := 0
	for _, x := range k.acts {
		if x.kind == took && x.number == command {
			n++
		}
	}
	return n
}

func (k *clerk) setID(id int) api.Errno {
	if id < 0 || id > 127 {
		return errArg
	}
	k.note(numbered, id)
	return ok
}

func (k *clerk) step() bool {
	if k.state() != boot || k.id() == 0 {
		return false
	}
	k.note(stepped, 0)
	return true
}

func (k *clerk) take(b []byte) int {
	if len(b) != 2 {
		return 0
	}
	_, is := leads[int(b[0])]
	own := k.id()
	if !is || b[1] != 0 && int(b[1]) != own || own == 0 || k.state() == boot {
		return 0
	}
	k.note(took, int(b[0]))
	return int(b[0])
}

// desk is a node and the clerk that it is held against, call by call.
type desk struct {
	t *testing.T
	n *Node
	k clerk
}

func deskOf(t *testing.T, id int) *desk {
	t.Helper()
	n, err := New(id)
	if n == nil || err != ok {
		t.Fatalf("New(%d): %v %d", id, n, err)
	}
	d := &desk{t, n, clerk{first: id}}
	d.same()
	return d
}

// deskIn is a node of a number that is in a state.
func deskIn(t *testing.T, id, state int) *desk {
	t.Helper()
	d := deskOf(t, id)
	if state != boot {
		d.wantStep(true)
	}
	switch state {
	case run:
		d.wantTake(toRun, toRun, 0)
	case stop:
		d.wantTake(toStop, toStop, 0)
	}
	if d.n.State() != state {
		t.Fatalf("State: %d, want %d", d.n.State(), state)
	}
	return d
}

// same looks at all that may be looked at, which changes nothing.
func (d *desk) same() {
	d.t.Helper()
	if is, want := d.n.State(), d.k.state(); is != want {
		d.t.Fatalf("State: %d, want %d: %v", is, want, d.k)
	}
	if is, want := d.n.ID(), d.k.id(); is != want {
		d.t.Fatalf("ID: %d, want %d: %v", is, want, d.k)
	}
	boots, talks := d.n.Boots()
	if a, b := d.k.times(toBoot), d.k.times(toTalk); boots != a || talks != b {
		d.t.Fatalf("Boots: %d %d, want %d %d: %v", boots, talks, a, b, d.k)
	}
}

func (d *desk) setID(id int) {
	d.t.Helper()
	if is, want := d.n.SetID(id), d.k.setID(id); is != want {
		d.t.Fatalf("SetID(%d): %d, want %d", id, is, want)
	}
	d.same()
}

func (d *desk) step() bool {
	d.t.Helper()
	b, is := d.n.Step()
	want := d.k.step()
	if is != want || is != (len(b) == 1) || len(b) > 1 || is && b[0] != 0 {
		d.t.Fatalf("Step: %x %v, want %v: %v", b, is, want, d.k)
	}
	d.same()
	return is
}

func (d *desk) take(b ...byte) int {
	d.t.Helper()
	is, want := d.n.Take(b), d.k.take(b)
	if is != want {
		d.t.Fatalf("Take(%x): %d, want %d: %v", b, is, want, d.k)
	}
	d.same()
	return is
}

func (d *desk) wantStep(want bool) {
	d.t.Helper()
	if d.step() != want {
		d.t.Fatalf("Step: %v, want %v", !want, want)
	}
}

func (d *desk) wantTake(want int, b ...byte) {
	d.t.Helper()
	if is := d.take(b...); is != want {
		d.t.Fatalf("Take(%x): %d, want %d", b, is, want)
	}
}

// wantHas: its state, its number, and how often it began anew.
func (d *desk) wantHas(state, id, boots, talks int) {
	d.t.Helper()
	a, b := d.n.Boots()
	if d.n.State() != state || d.n.ID() != id || a != boots || b != talks {
		d.t.Fatalf("it has %d %d %d %d, want %d %d %d %d", d.n.State(), d.n.ID(), a, b, state, id, boots, talks)
	}
}

// die is a source of numbers that are always the same ones.
type die uint64

func dice(seed uint64) *die {
	d := die(seed)
	return &d
}

func (d *die) next() uint64 {
	*d += 0x9e3779b97f4a7c15
	z := uint64(*d)
	z = (z ^ z>>30) * 0xbf58476d1ce4e5b9
	z = (z ^ z>>27) * 0x94d049bb133111eb
	return z ^ z>>31
}

func (d *die) below(n int) int { return int(d.next() >> 1 % uint64(n)) }

// command is one of the five.
func (d *die) command() byte { return byte(commands[d.below(len(commands))]) }

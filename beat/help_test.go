package beat

import (
	"math"
	"slices"
	"testing"

	"tramway/api"
)

// The errors, by hand.
const (
	ok       api.Errno = 0
	errArg   api.Errno = 1
	errThere api.Errno = 5
)

// The states, what there is to tell, and the most ticks, by hand.
const (
	boot  = 0
	stop  = 4
	run   = 5
	ready = 127

	newsBoot = 0
	newsFrom = 1
	newsTurn = 2
	newsLost = 3

	most = 4294967296
)

var states = []int{stop, run, ready}

// badStates are no states in which a node beats; the low bytes of some of them are.
var badStates = []int{math.MinInt, -251, -5, -1, boot, 1, 2, 3, 6, 8, 126, 128, 132, 133, 255, 256, 260, 261, 383, 1<<32 + 5, math.MaxInt}

// badNumbers are no numbers of nodes; the low bytes of some of them are.
var badNumbers = []int{math.MinInt, -1 << 32, -256, -251, -5, -1, 0, 128, 255, 256, 261, 1 << 32, 1<<32 + 5, math.MaxInt}

// badTicks are too many.
var badTicks = []uint64{most + 1, most + 2, 1 << 33, 1<<32 + 3, 1 << 63, math.MaxUint64}

// pulse is a heart written otherwise: it keeps how many ticks went by since it was set, and divides.
type pulse struct {
	ticks uint64
	n     uint64 // ticks since it was set
}

func (p *pulse) tick(state int) []byte {
	p.n++
	if p.ticks == 0 || p.n%p.ticks != 0 || !slices.Contains(states, state) {
		return nil
	}
	return []byte{byte(state)}
}

// heartDesk is a heart and the pulse that it is held against, call by call.
type heartDesk struct {
	t *testing.T
	h *Heart
	p pulse
}

func heartOf(t *testing.T, ticks uint64) *heartDesk {
	t.Helper()
	h, err := NewHeart(ticks)
	if h == nil || err != ok {
		t.Fatalf("NewHeart(%d): %v %d", ticks, h, err)
	}
	return &heartDesk{t, h, pulse{ticks: ticks}}
}

func (d *heartDesk) set(ticks uint64) {
	d.t.Helper()
	want := ok
	if ticks > most {
		want = errArg
	} else {
		d.p = pulse{ticks: ticks}
	}
	if err := d.h.Set(ticks); err != want {
		d.t.Fatalf("Set(%d): %d, want %d", ticks, err, want)
	}
}

func (d *heartDesk) tick(state int) bool {
	d.t.Helper()
	b, is := d.h.Tick(state)
	want := d.p.tick(state)
	if string(b) != string(want) || is != (want != nil) {
		d.t.Fatalf("Tick(%d): %x %v, want %x: %+v", state, b, is, want, d.p)
	}
	return is
}

// act is what happened to a watcher: a node's beat came, or a tick went by (node 0).
type act struct{ node, state int }

// log is a watcher written otherwise: it keeps all that happened, and looks back.
type log struct {
	l    []api.Watch
	acts []act
}

// last is the last beat of a node, how many ticks went by since, and whether it came at all.
func (g *log) last(node int) (state int, ticks uint64, came bool) {
	for i := len(g.acts) - 1; i >= 0; i-- {
		switch x := g.acts[i]; x.node {
		case 0:
			ticks++
		case node:
			return x.state, ticks, x.state != boot
		}
	}
	return 0, 0, false
}

func (g *log) watch(node int) (api.Watch, bool) {
	for _, x := range g.l {
		if x.Node == node {
			return x, true
		}
	}
	return api.Watch{}, false
}

func (g *log) state(node int) (int, bool) {
	x, is := g.watch(node)
	state, ticks, came := g.last(node)
	if !is || !came || ticks >= x.Ticks {
		return 0, false
	}
	return state, true
}

func (g *log) lost() []int {
	var l []int
	for node := 1; node <= 127; node++ {
		if x, is := g.watch(node); is {
			if _, ticks, came := g.last(node); came && ticks >= x.Ticks {
				l = append(l, node)
			}
		}
	}
	return l
}

func (g *log) take(node int, b []byte) ([]api.News, bool) {
	if _, is := g.watch(node); !is || len(b) != 1 || b[0] != boot && !slices.Contains(states, int(b[0])) {
		return nil, false
	}
	before, there := g.state(node)
	now := int(b[0])
	g.acts = append(g.acts, act{node, now})
	switch {
	case now == boot:
		return []api.News{{Node: node, What: newsBoot}}, true
	case !there:
		return []api.News{{Node: node, What: newsFrom, State: now}}, true
	case before != now:
		return []api.News{{Node: node, What: newsTurn, State: now}}, true
	}
	return nil, true
}

func (g *log) tick() []api.News {
	g.acts = append(g.acts, act{})
	var l []api.News
	for _, x := range g.l {
		if state, ticks, came := g.last(x.Node); came && ticks == x.Ticks {
			l = append(l, api.News{Node: x.Node, What: newsLost, State: state})
		}
	}
	return l
}

// desk is a watcher and the log that it is held against, call by call.
type desk struct {
	t *testing.T
	w *Watcher
	g log
}

func deskOf(t *testing.T, l ...api.Watch) *desk {
	t.Helper()
	w, err := NewWatcher(l)
	if w == nil || err != ok {
		t.Fatalf("NewWatcher(%v): %v %d", l, w, err)
	}
	d := &desk{t, w, log{l: slices.Clone(l)}}
	d.same()
	return d
}

// same looks at all that may be looked at, which changes nothing.
func (d *desk) same() {
	d.t.Helper()
	for _, x := range d.g.l {
		state, is := d.w.State(x.Node)
		if want, there := d.g.state(x.Node); state != want || is != there {
			d.t.Fatalf("State(%d): %d %v, want %d %v: %v", x.Node, state, is, want, there, d.g)
		}
	}
	if l, want := d.w.Lost(), d.g.lost(); !slices.Equal(l, want) {
		d.t.Fatalf("Lost: %v, want %v: %v", l, want, d.g)
	}
}

func (d *desk) take(node int, b ...byte) []api.News {
	d.t.Helper()
	l, is := d.w.Take(node, b)
	want, takes := d.g.take(node, b)
	if !slices.Equal(l, want) || is != takes {
		d.t.Fatalf("Take(%d, %x): %v %v, want %v %v: %v", node, b, l, is, want, takes, d.g)
	}
	d.same()
	return l
}

func (d *desk) tick() []api.News {
	d.t.Helper()
	l, want := d.w.Tick(), d.g.tick()
	if !slices.Equal(l, want) {
		d.t.Fatalf("Tick: %v, want %v: %v", l, want, d.g)
	}
	d.same()
	return l
}

// wantTake: what a beat tells, by hand.
func (d *desk) wantTake(node int, b byte, want ...api.News) {
	d.t.Helper()
	if l := d.take(node, b); !slices.Equal(l, want) {
		d.t.Fatalf("Take(%d, %x): %v, want %v", node, b, l, want)
	}
}

// wantTick: what a tick tells, by hand.
func (d *desk) wantTick(want ...api.News) {
	d.t.Helper()
	if l := d.tick(); !slices.Equal(l, want) {
		d.t.Fatalf("Tick: %v, want %v", l, want)
	}
}

// wantState: a node's state (0: it is not there), by hand.
func (d *desk) wantState(node, want int) {
	d.t.Helper()
	if state, is := d.w.State(node); state != want || is != (want != 0) {
		d.t.Fatalf("State(%d): %d %v, want %d", node, state, is, want)
	}
}

// wantLost: the nodes that are lost, by hand.
func (d *desk) wantLost(want ...int) {
	d.t.Helper()
	if l := d.w.Lost(); !slices.Equal(l, want) {
		d.t.Fatalf("Lost: %v, want %v", l, want)
	}
}

// die is a source of numbers that are always the same ones.
type die uint64

func dice(seed uint64) *die {
	d := die(seed)
	return &d
}

func (d *die) next() uint64 {
	*d += 0x9e3779b97f4a7c15
	z := uint64(*d)
	z = (z ^ z>>30) * 0xbf58476d1ce4e5b9
	z = (z ^ z>>27) * 0x94d049bb133111eb
	return z ^ z>>31
}

func (d *die) below(n int) int { return int(d.next() >> 1 % uint64(n)) }

// state is one of those in which a node beats.
func (d *die) state() byte { return byte(states[d.below(len(states))]) }

// watches are some nodes with few ticks, each once, in any order.
func (d *die) watches(n int) []api.Watch {
	var l []api.Watch
	for len(l) < n {
		x := api.Watch{Node: 1 + d.below(127), Ticks: uint64(1 + d.below(6))}
		if !slices.ContainsFunc(l, func(y api.Watch) bool { return y.Node == x.Node }) {
			l = append(l, x)
		}
	}
	return l
}

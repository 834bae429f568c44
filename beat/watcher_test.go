package beat

import (
	"slices"
	"testing"

	"tramway/api"
)

// P18.2: which nodes may be watched.
func TestNewWatcher(t *testing.T) {
	var all []api.Watch
	for node := 127; node >= 1; node-- {
		all = append(all, api.Watch{Node: node, Ticks: uint64(node)})
	}
	for _, l := range [][]api.Watch{nil, {}, {{Node: 1, Ticks: 1}}, {{Node: 127, Ticks: most}}, {{Node: 5, Ticks: most - 1}, {Node: 4, Ticks: 2}}, all} {
		d := deskOf(t, l...)
		for node := -3; node < 140; node++ {
			d.wantState(node, 0)
		}
		d.wantLost()
		d.wantTick()
	}
}

// P18.2: a node that can't be, or ticks that can't, wherever they are.
func TestNewWatcherArg(t *testing.T) {
	var bad []api.Watch
	for _, node := range badNumbers {
		bad = append(bad, api.Watch{Node: node, Ticks: 3}, api.Watch{Node: node, Ticks: 0})
	}
	for _, ticks := range append([]uint64{0}, badTicks...) {
		bad = append(bad, api.Watch{Node: 1, Ticks: ticks}, api.Watch{Node: 127, Ticks: ticks})
	}
	for _, x := range bad {
		for at := range 4 {
			l := slices.Insert([]api.Watch{{Node: 7, Ticks: 1}, {Node: 6, Ticks: 2}, {Node: 8, Ticks: 9}}, at, x)
			wantRefusal(t, errArg, l...)
		}
	}
}

// P18.2: the first of l that is wrong decides, and of it ErrArg ahead of ErrThere.
func TestNewWatcherFirst(t *testing.T) {
	x, again := api.Watch{Node: 5, Ticks: 3}, api.Watch{Node: 5, Ticks: 4}
	other, bad := api.Watch{Node: 6, Ticks: 3}, api.Watch{Node: 128, Ticks: 3}
	wantRefusal(t, errThere, x, x)
	wantRefusal(t, errThere, x, again)
	wantRefusal(t, errThere, x, other, again)
	wantRefusal(t, errThere, other, x, again, other)
	wantRefusal(t, errThere, x, again, bad)
	wantRefusal(t, errArg, x, bad, again)
	wantRefusal(t, errArg, x, other, bad, bad)
	wantRefusal(t, errArg, bad, bad)
	wantRefusal(t, errArg, x, api.Watch{Node: 5})
	wantRefusal(t, errArg, x, api.Watch{Node: 5, Ticks: most + 1})
	wantRefusal(t, errArg, api.Watch{Node: 5}, x, x)
	for node := 1; node <= 127; node++ {
		wantRefusal(t, errThere, api.Watch{Node: node, Ticks: 1}, api.Watch{Node: node, Ticks: most})
	}
}

// P18.2: each node of a long list that is there twice is found, wherever it stands.
func TestNewWatcherLong(t *testing.T) {
	var all []api.Watch
	for node := 1; node <= 127; node++ {
		all = append(all, api.Watch{Node: node, Ticks: 3})
	}
	for _, x := range all {
		wantRefusal(t, errThere, append(slices.Clone(all), x)...)
	}
	wantRefusal(t, errArg, append(slices.Clone(all), api.Watch{Node: 128, Ticks: 3})...)
	wantRefusal(t, errThere, slices.Concat(all, all, []api.Watch{{Node: 0, Ticks: 3}})...)
	wantRefusal(t, errThere, slices.Repeat(all, 3000)...)
}

func wantRefusal(t *testing.T, want api.Errno, l ...api.Watch) {
	t.Helper()
	if w, err := NewWatcher(l); w != nil || err != want {
		t.Errorf("NewWatcher(%v): %v %d, want %d", l[:min(len(l), 8)], w, err, want)
	}
}

// Example 1: a node comes, and is lost behind three ticks.
func TestExample(t *testing.T) {
	d := deskOf(t, api.Watch{Node: 5, Ticks: 3})
	d.wantTake(5, 0x7f, api.News{Node: 5, What: newsFrom, State: ready})
	d.wantTick()
	d.wantTick()
	d.wantTick(api.News{Node: 5, What: newsLost, State: ready})
}

// P18.3: what a beat tells of a node that did not come yet, that is there, that was lost, and that began.
func TestTake(t *testing.T) {
	for _, before := range states {
		for _, now := range states {
			from, turn := api.News{Node: 9, What: newsFrom, State: now}, api.News{Node: 9, What: newsTurn, State: now}
			begun := api.News{Node: 9, What: newsBoot}
			d := deskOf(t, api.Watch{Node: 9, Ticks: 1})
			d.wantTake(9, byte(now), from)
			d.wantState(9, now)
			d.take(9, byte(before))
			d.wantState(9, before)
			if now == before {
				d.wantTake(9, byte(now))
			} else {
				d.wantTake(9, byte(now), turn)
			}
			d.wantTake(9, byte(now))
			d.wantState(9, now)
			d.wantTick(api.News{Node: 9, What: newsLost, State: now})
			d.wantState(9, 0)
			d.wantLost(9)
			d.wantTake(9, byte(now), from)
			d.wantState(9, now)
			d.wantLost()
			d.wantTake(9, boot, begun)
			d.wantState(9, 0)
			d.wantLost()
			d.wantTick()
			d.wantTake(9, byte(now), from)
		}
	}
}

// P18.3: a node begins, whatever it was: not yet there, there, lost, or begun; it is not lost, and is not lost later.
func TestTakeBoot(t *testing.T) {
	begun := api.News{Node: 9, What: newsBoot}
	d := deskOf(t, api.Watch{Node: 9, Ticks: 2})
	d.wantTake(9, boot, begun)
	d.wantTake(9, boot, begun)
	d.wantState(9, 0)
	d.take(9, run)
	d.wantTick()
	d.wantTake(9, boot, begun)
	d.wantState(9, 0)
	for range 9 {
		d.wantTick()
	}
	d.wantLost()
	d.take(9, run)
	d.wantTick()
	d.wantTick(api.News{Node: 9, What: newsLost, State: run})
	d.wantLost(9)
	d.wantTake(9, boot, begun)
	d.wantLost()
	d.wantTake(9, run, api.News{Node: 9, What: newsFrom, State: run})
}

// P18.3: each one byte; of none, of two and of many bytes none is a beat; none of these changes anything.
func TestTakeBytes(t *testing.T) {
	for b := range 256 {
		for _, before := range []int{boot, stop, run, ready} {
			d := deskOf(t, api.Watch{Node: 9, Ticks: 2})
			d.take(9, byte(before))
			d.tick()
			_, is := d.w.Take(9, []byte{byte(b)})
			if want := b == 0 || b == 4 || b == 5 || b == 127; is != want {
				t.Errorf("Take(%x): %v", b, is)
			}
		}
		d := deskOf(t, api.Watch{Node: 9, Ticks: 2})
		d.take(9, run)
		d.tick()
		d.take(9)
		d.take(9, run, byte(b))
		d.take(9, byte(b), run)
		d.take(9, run, 0, 0, 0, 0, 0, 0, byte(b))
		if b != boot && b != stop && b != run && b != ready {
			d.take(9, byte(b))
		}
		d.wantState(9, run)
		d.wantTick(api.News{Node: 9, What: newsLost, State: run})
	}
	d := deskOf(t, api.Watch{Node: 9, Ticks: 2})
	d.take(9, make([]byte, 1<<16)...)
	if l, is := d.w.Take(9, nil); l != nil || is {
		t.Error(l, is)
	}
}

// P18.3: a node that is not watched tells nothing, whatever it beats.
func TestTakeOthers(t *testing.T) {
	d := deskOf(t, api.Watch{Node: 5, Ticks: 2}, api.Watch{Node: 127, Ticks: 3})
	for _, node := range append([]int{1, 4, 6, 126}, badNumbers...) {
		for _, b := range []byte{boot, stop, run, ready, 9} {
			if l, is := d.w.Take(node, []byte{b}); l != nil || is {
				t.Errorf("Take(%d, %x): %v %v", node, b, l, is)
			}
			d.wantState(node, 0)
			d.same()
		}
	}
	none := deskOf(t)
	none.take(5, run)
	none.wantTick()
}

// P18.3, P18.4: each beat lets the ticks be counted anew, in the same state and in another one.
func TestTakeTicks(t *testing.T) {
	for ticks := uint64(1); ticks < 8; ticks++ {
		d := deskOf(t, api.Watch{Node: 3, Ticks: ticks})
		for i := range 30 {
			d.take(3, byte(states[i/2%3]))
			for range ticks - 1 {
				d.wantTick()
			}
		}
		state, _ := d.w.State(3)
		d.wantTick(api.News{Node: 3, What: newsLost, State: state})
		for range 30 {
			d.wantTick()
		}
		d.wantLost(3)
	}
}

// P18.4: the nodes that are lost at one tick are told in the order of l; Lost tells them by their numbers.
func TestTickOrder(t *testing.T) {
	d := deskOf(t, api.Watch{Node: 90, Ticks: 2}, api.Watch{Node: 7, Ticks: 1}, api.Watch{Node: 80, Ticks: 2}, api.Watch{Node: 100, Ticks: 2}, api.Watch{Node: 6, Ticks: 2})
	for node, b := range map[int]byte{90: run, 7: stop, 80: ready, 100: stop} {
		d.take(node, b)
	}
	d.wantTick(api.News{Node: 7, What: newsLost, State: stop})
	d.wantLost(7)
	d.wantTick(api.News{Node: 90, What: newsLost, State: run}, api.News{Node: 80, What: newsLost, State: ready}, api.News{Node: 100, What: newsLost, State: stop})
	d.wantLost(7, 80, 90, 100)
	d.wantState(6, 0)
	d.wantTick()
	d.take(90, boot)
	d.take(100, run)
	d.wantLost(7, 80)
}

// P18.4: the most ticks are counted whole; so that a test ends, it is told that most of them went by.
func TestTickMost(t *testing.T) {
	for _, ticks := range []uint64{most - 1, most} {
		w, _ := NewWatcher([]api.Watch{{Node: 5, Ticks: ticks}})
		w.Take(5, []byte{run})
		for range 1000 {
			if l := w.Tick(); l != nil {
				t.Fatalf("%d: too early: %v", ticks, l)
			}
		}
		w.nodes[0].gone = ticks - 2
		if l := w.Tick(); l != nil {
			t.Fatalf("%d: too early: %v", ticks, l)
		}
		if l := w.Tick(); len(l) != 1 {
			t.Fatalf("%d: not lost", ticks)
		}
	}
}

// Memory: what is handed in is neither kept nor changed; what is told is new.
func TestWatcherMemory(t *testing.T) {
	spare := []api.Watch{{Node: 9, Ticks: 1}, {Node: 4, Ticks: 1}, {Node: 77, Ticks: 77}}
	d := deskOf(t, spare[:2]...)
	if spare[2] != (api.Watch{Node: 77, Ticks: 77}) || spare[0] != (api.Watch{Node: 9, Ticks: 1}) {
		t.Error("NewWatcher changes what it is given")
	}
	spare[0], spare[1] = api.Watch{Node: 1, Ticks: 50}, api.Watch{Node: 2, Ticks: 50}
	d.same()
	b := []byte{run, 99}
	first, _ := d.w.Take(9, b[:1])
	d.g.take(9, b[:1])
	if b[0] != run || b[1] != 99 {
		t.Error("Take changes what it is given")
	}
	b[0] = stop
	d.take(4, run)
	spoilNews(first)
	d.same()
	lost := d.tick()
	spoilNews(lost)
	d.same()
	l := d.w.Lost()
	for i := range l[:cap(l)] {
		l[:cap(l)][i] = -7
	}
	d.wantLost(4, 9)
	d.take(9, run)
	if lost[0].Node != -7 || first[0].Node != -7 || l[0] != -7 {
		t.Error("two answers share their memory")
	}
}

func spoilNews(l []api.News) {
	for i := range l[:cap(l)] {
		l[:cap(l)][i] = api.News{Node: -7, What: -7, State: -7}
	}
}

// From arguments alone: two watchers know nothing of one another.
func TestWatchersApart(t *testing.T) {
	l := []api.Watch{{Node: 5, Ticks: 2}}
	a, b := deskOf(t, l...), deskOf(t, l...)
	a.take(5, run)
	b.tick()
	b.wantState(5, 0)
	a.wantTick()
	b.take(5, stop)
	a.wantTick(api.News{Node: 5, What: newsLost, State: run})
	b.wantLost()
	b.wantState(5, stop)
}

// Ends: what the zero value answers is open, but it answers.
func TestWatcherZero(t *testing.T) {
	var w Watcher
	w.Take(5, []byte{run})
	w.Tick()
	w.State(5)
	w.Lost()
}

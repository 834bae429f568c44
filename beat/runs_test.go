package beat

import (
	"slices"
	"testing"

	"tramway/api"
)

// P18.3, P18.4: all rows of some calls against their logs.
func TestAllShortRuns(t *testing.T) {
	const kinds, long = 7, 6
	rows := 1
	for range long {
		rows *= kinds
	}
	for n := range rows {
		d := deskOf(t, api.Watch{Node: 9, Ticks: 2}, api.Watch{Node: 3, Ticks: 1})
		for range long {
			switch n % kinds {
			case 0, 1:
				d.tick()
			case 2:
				d.take(9, boot)
			case 3:
				d.take(9, run)
			case 4:
				d.take(9, ready)
			case 5:
				d.take(3, run)
			default:
				d.take(3, run+1)
			}
			n /= kinds
		}
	}
}

// P18.3, P18.4: long runs of watchers against their logs.
func TestRuns(t *testing.T) {
	r := dice(18)
	for range 300 {
		d := deskOf(t, r.watches(r.below(6))...)
		for range 150 {
			node := r.below(129)
			if len(d.g.l) > 0 && r.below(8) > 0 {
				node = d.g.l[r.below(len(d.g.l))].Node
			}
			switch n := r.below(20); {
			case n == 0:
				d.take(node, byte(r.next()))
			case n == 1:
				d.take(node, r.state(), byte(r.below(2)))
			case n < 4:
				d.take(node, boot)
			case n < 12:
				d.take(node, r.state())
			default:
				d.tick()
			}
		}
	}
}

// P18.5, P18.8: of each node From comes first, and again only behind Lost or Boot; Turn and Lost only behind From; what is back is told once.
func TestToldOnce(t *testing.T) {
	r := dice(185)
	for range 300 {
		l := r.watches(1 + r.below(5))
		w, _ := NewWatcher(l)
		there, state := map[int]bool{}, map[int]int{}
		hear := func(news []api.News) {
			for _, x := range news {
				switch x.What {
				case newsFrom:
					if there[x.Node] {
						t.Fatalf("From twice: %v", x)
					}
					there[x.Node] = true
				case newsTurn:
					if !there[x.Node] || state[x.Node] == x.State {
						t.Fatalf("no turn: %v", x)
					}
				case newsLost:
					if !there[x.Node] || state[x.Node] != x.State {
						t.Fatalf("Lost twice, or another state: %v", x)
					}
					there[x.Node] = false
				default:
					there[x.Node] = false
				}
				state[x.Node] = x.State
			}
		}
		for range 300 {
			if r.below(2) == 0 {
				hear(w.Tick())
				continue
			}
			b := r.state()
			if r.below(8) == 0 {
				b = boot
			}
			node := l[r.below(len(l))].Node
			news, _ := w.Take(node, []byte{b})
			hear(news)
			if b != boot && !there[node] {
				t.Fatalf("%d beats, and was not told to be there", node)
			}
		}
	}
}

// P18.6: a node that beats at least each Ticks less 1 ticks is never lost; one that stops is told so just Ticks ticks behind its last beat.
func TestInTime(t *testing.T) {
	r := dice(186)
	for ticks := uint64(1); ticks < 40; ticks++ {
		w, _ := NewWatcher([]api.Watch{{Node: 5, Ticks: ticks}})
		for range 100 {
			w.Take(5, []byte{r.state()})
			for range r.below(int(ticks)) {
				if l := w.Tick(); len(l) != 0 {
					t.Fatalf("%d: lost", ticks)
				}
			}
		}
		w.Take(5, []byte{run})
		for i := uint64(1); i < 3*ticks; i++ {
			if l := w.Tick(); len(l) == 1 != (i == ticks) {
				t.Fatalf("%d: behind %d ticks: %v", ticks, i, l)
			}
		}
	}
}

// P18.6: a heart and a watcher with one tick more than it has between beats.
func TestHeartWatched(t *testing.T) {
	for ticks := uint64(1); ticks < 20; ticks++ {
		h, _ := NewHeart(ticks)
		w, _ := NewWatcher([]api.Watch{{Node: 5, Ticks: ticks + 1}})
		var told []api.News
		for i := range 10 * ticks {
			state := run
			if i >= 6*ticks {
				state = boot
			}
			if b, is := h.Tick(state); is {
				news, _ := w.Take(5, b)
				told = append(told, news...)
			}
			told = append(told, w.Tick()...)
		}
		want := []api.News{{Node: 5, What: newsFrom, State: run}, {Node: 5, What: newsLost, State: run}}
		if !slices.Equal(told, want) {
			t.Errorf("%d: %v", ticks, told)
		}
	}
}

// P18.7: what is told of a node of many is what a watcher of that node alone tells.
func TestApart(t *testing.T) {
	r := dice(187)
	for range 200 {
		l := r.watches(1 + r.below(10))
		own := l[r.below(len(l))]
		all, _ := NewWatcher(l)
		one, _ := NewWatcher([]api.Watch{own})
		for range 200 {
			var a, b []api.News
			if r.below(2) == 0 {
				a, b = all.Tick(), one.Tick()
			} else {
				node, beat := l[r.below(len(l))].Node, []byte{r.state()}
				if r.below(6) == 0 {
					beat[0] = byte(r.next())
				}
				a, _ = all.Take(node, beat)
				b, _ = one.Take(node, beat)
			}
			a = slices.DeleteFunc(a, func(x api.News) bool { return x.Node != own.Node })
			if !slices.Equal(a, b) {
				t.Fatalf("%v: %v of many, %v alone", own, a, b)
			}
			x, is := all.State(own.Node)
			y, alone := one.State(own.Node)
			if x != y || is != alone || slices.Contains(all.Lost(), own.Node) != slices.Contains(one.Lost(), own.Node) {
				t.Fatalf("%v: %d %v of many, %d %v alone", own, x, is, y, alone)
			}
		}
	}
}

// P18.8: a node that was lost for any time is told to be back with its first beat, and only with that.
func TestBack(t *testing.T) {
	for away := range 30 {
		d := deskOf(t, api.Watch{Node: 5, Ticks: 2})
		d.take(5, run)
		d.tick()
		d.wantTick(api.News{Node: 5, What: newsLost, State: run})
		for range away {
			d.wantTick()
		}
		d.wantTake(5, run, api.News{Node: 5, What: newsFrom, State: run})
		d.wantTick()
		d.wantTake(5, run)
		d.wantTake(5, stop, api.News{Node: 5, What: newsTurn, State: stop})
		d.wantLost()
	}
}

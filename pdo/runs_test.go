package pdo

import (
	"strings"
	"testing"

	"tramway/api"
)

// P15.1, P15.2: all rows of some calls on all small forms, against their clerks.
func TestAllShortRuns(t *testing.T) {
	for _, typ := range []int{0, 1, 2, 3, 254, 255} {
		for inhibit := range uint64(4) {
			for event := range uint64(4) {
				f := api.Form{Type: typ, Inhibit: inhibit, Event: event}
				d := deskOf(t, f)
				branch(t, *d.s, d.k, "", 7)
			}
		}
	}
}

// branch makes each call on a copy of its own, and goes on from there.
func branch(t *testing.T, s Sender, k clerk, path string, depth int) {
	if depth == 0 {
		return
	}
	for i := range 5 {
		s, k := s, k
		var is, want bool
		switch i {
		case 0:
			is, want = s.Event(), k.event()
		case 1:
			is, want = s.Sync(0), k.sync()
		case 2:
			is, want = s.Tick(), k.tick()
		default:
			s.Start(i == 3)
			k.start(i == 3)
		}
		row := path + "est+-"[i:i+1]
		if is != want {
			t.Fatalf("%v: the last of %s: %v, want %v", k.f, row, is, want)
		}
		branch(t, s, k, row, depth-1)
	}
}

// P15.1, P15.2: long runs of all kinds of forms, against their clerks.
func TestSenderRuns(t *testing.T) {
	r := dice(15)
	for range 3000 {
		d := deskOf(t, r.form())
		busy := 1 + r.below(10)
		for range 300 {
			switch n := r.below(40); {
			case n == 0:
				d.start(false)
			case n < 3:
				d.start(true)
			case n < 3+busy:
				d.event()
			case n < 20:
				d.sync(r.below(300) - 20)
			default:
				d.tick()
			}
		}
	}
}

// P15.3, P15.6: long runs of takers of all types, against their ledgers.
func TestTakerRuns(t *testing.T) {
	r := dice(3)
	for _, typ := range types() {
		h := tillOf(t, typ)
		for i := range 400 {
			switch n := r.below(20); {
			case n == 0:
				h.start(false)
			case n < 3:
				h.start(true)
			case n < 10:
				h.sync()
			default:
				h.take(strings.Repeat(string(rune('a'+i%26)), r.below(10)))
			}
		}
	}
}

// P15.4: between two times that it is sent at least Inhibit ticks go by, while it stays started.
func TestQuietBetween(t *testing.T) {
	r := dice(4)
	for range 2000 {
		f := r.form()
		f.Type = 254 + r.below(2)
		s, _ := NewSender(f)
		s.Start(true)
		ticks, times := uint64(0), 0
		for range 200 {
			var sent bool
			switch r.below(5) {
			case 0:
				sent = s.Event()
			case 1:
				sent = s.Sync(1)
			default:
				ticks++
				sent = s.Tick()
			}
			if !sent {
				continue
			}
			if times > 0 && ticks < f.Inhibit {
				t.Fatalf("%v: sent behind %d ticks", f, ticks)
			}
			ticks, times = 0, times+1
		}
		if times < 2 {
			t.Fatalf("%v: sent %d times", f, times)
		}
	}
}

// P15.5: what waits is sent within Inhibit ticks.
func TestNotForgotten(t *testing.T) {
	r := dice(5)
	for range 2000 {
		f := r.form()
		f.Type = 254 + r.below(2)
		f.Inhibit = 1 + uint64(r.below(20))
		s, _ := NewSender(f)
		s.Start(true)
		ticks, waits := uint64(0), false
		for range 300 {
			switch r.below(5) {
			case 0:
				if !s.Event() && !waits {
					ticks, waits = 0, true
				}
			case 1:
				s.Sync(1)
			default:
				ticks++
				if s.Tick() {
					waits = false
				}
			}
			if waits && ticks >= f.Inhibit {
				t.Fatalf("%v: not sent behind %d ticks", f, ticks)
			}
		}
	}
}

// P15.5: of type 0 what waits is sent with the next SYNC.
func TestNotForgottenAtSync(t *testing.T) {
	r := dice(6)
	for range 200 {
		f := r.form()
		f.Type = 0
		s, _ := NewSender(f)
		s.Start(true)
		waits := false
		for range 200 {
			switch r.below(3) {
			case 0:
				waits = true
				if s.Event() {
					t.Fatalf("%v: sent at an event", f)
				}
			case 1:
				if s.Tick() {
					t.Fatalf("%v: sent at a tick", f)
				}
			default:
				if s.Sync(0) != waits {
					t.Fatalf("%v: with a SYNC: %v, want %v", f, !waits, waits)
				}
				waits = false
			}
		}
	}
}

// P15.8: whatever happened, one that is stopped and started again does what a new one does.
func TestAnew(t *testing.T) {
	r := dice(8)
	for range 2000 {
		f := r.form()
		old, fresh := started(t, f), started(t, f)
		for range r.below(100) {
			old.wantsNothing(r, false)
		}
		old.start(false)
		for range r.below(20) {
			old.wantsNothing(r, true)
		}
		old.start(true)
		for i := range 100 {
			a, b := false, false
			switch r.below(4) {
			case 0:
				a, b = old.event(), fresh.event()
			case 1:
				a, b = old.sync(i), fresh.sync(i)
			default:
				a, b = old.tick(), fresh.tick()
			}
			if a != b {
				t.Fatalf("%v: call %d: %v, of a new one %v", f, i, a, b)
			}
		}
	}
}

// wantsNothing makes any call, which, of a sender that is stopped, answers false.
func (d *desk) wantsNothing(r *die, stopped bool) {
	d.t.Helper()
	var sent bool
	switch r.below(3) {
	case 0:
		sent = d.event()
	case 1:
		sent = d.sync(r.below(240))
	default:
		sent = d.tick()
	}
	if sent && stopped {
		d.t.Fatalf("%v: sent, though it is stopped", d.k.f)
	}
}

// P15.6: a producer of one cycle and a taker: what counts at a SYNC is one whole object, the last one ahead of it.
func TestOneCycle(t *testing.T) {
	r := dice(9)
	for _, typ := range types()[:241] {
		k, _ := NewTaker(typ)
		k.Start(true)
		for cycle := range 30 {
			last := ""
			n := r.below(4)
			for i := range n {
				last = strings.Repeat(string(rune('a'+(cycle+i)%26)), 1+r.below(8))
				k.Take([]byte(last))
			}
			if b, is := k.Sync(); string(b) != last || is != (n > 0) {
				t.Fatalf("type %d, cycle %d: %q %v, want %q", typ, cycle, b, is, last)
			}
		}
	}
}

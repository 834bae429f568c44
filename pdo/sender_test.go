package pdo

import (
	"math"
	"testing"

	"tramway/api"
)

// P15.2: the document's example.
func TestExample(t *testing.T) {
	started(t, api.Form{Type: 254, Inhibit: 3}).wants("EettT")
}

// P15.1: one that was not started sends nothing, and counts nothing of what went by then.
func TestNotStarted(t *testing.T) {
	for _, typ := range types() {
		for _, inhibit := range []uint64{0, 2} {
			d := deskOf(t, api.Form{Type: typ, Inhibit: inhibit, Event: 2})
			for range 5 {
				d.wants("estt-")
			}
		}
	}
	deskOf(t, api.Form{Type: 0}).wants("e+s")
	deskOf(t, api.Form{Type: 1}).wants("s+S")
	deskOf(t, api.Form{Type: 3}).wants("ss+ssS")
	deskOf(t, api.Form{Type: 254, Inhibit: 2}).wants("et+tE")
	deskOf(t, api.Form{Type: 254, Event: 3}).wants("tt+ttT")
}

// P15.1: Start(true) of one that is started changes nothing, nor does Start(false) of one that is not.
func TestStartTwice(t *testing.T) {
	deskOf(t, api.Form{Type: 0}).wants("--++e+S+s")
	deskOf(t, api.Form{Type: 3}).wants("+s+s+S++s+s+S")
	deskOf(t, api.Form{Type: 254, Inhibit: 2}).wants("+E+e+t+T+t+e+T")
	deskOf(t, api.Form{Type: 254, Event: 3}).wants("+t+t+T+t+t+T")
	deskOf(t, api.Form{Type: 254, Event: 3}).wants("+tt--e--+ttT")
}

// P15.2: one of type 0 is sent at the SYNC behind an event, once, whatever events there were, ticks and times.
func TestTypeNought(t *testing.T) {
	for _, f := range []api.Form{{}, {Inhibit: 3}, {Event: 2}, {Inhibit: far, Event: 1}} {
		d := started(t, f)
		d.wants("sseSsseeeSsettttSsttttsse")
		d.wants("SeSeSs")
	}
}

// P15.2, P15.7: one of type n is sent at each n-th SYNC, whatever happens between.
func TestEachSoMany(t *testing.T) {
	for typ := 1; typ <= 240; typ++ {
		r := dice(uint64(typ))
		for _, f := range []api.Form{{Type: typ}, {Type: typ, Inhibit: 5, Event: 2}, {Type: typ, Inhibit: far, Event: far}} {
			d := started(t, f)
			for i := 1; i <= 3*typ+1; i++ {
				for range r.below(4) {
					d.wants([]string{"e", "t", "+"}[r.below(3)])
				}
				if d.sync(i) != (i%typ == 0) {
					t.Fatalf("%v: the %dth SYNC", f, i)
				}
			}
		}
	}
	started(t, api.Form{Type: 1}).wants("SSeSetS")
	started(t, api.Form{Type: 2}).wants("sSesSestettSs")
}

// P15.2: the counter of a SYNC plays no part.
func TestCounterPlaysNoPart(t *testing.T) {
	for _, counter := range []int{math.MinInt, -1, 0, 1, 2, 3, 240, 241, math.MaxInt} {
		three := started(t, api.Form{Type: 3})
		for i := range 10 {
			if three.sync(counter) != (i%3 == 2) {
				t.Fatalf("counter %d, the %dth", counter, i)
			}
		}
		nought := started(t, api.Form{})
		nought.sync(counter)
		nought.event()
		if !nought.sync(counter) || nought.sync(counter) {
			t.Fatalf("counter %d of type 0", counter)
		}
		once := started(t, api.Form{Type: 254, Inhibit: 1})
		once.wants("Ee")
		if once.sync(counter) {
			t.Fatalf("counter %d of type 254", counter)
		}
		once.wants("T")
	}
}

// P15.2: one of 254 or 255 is sent at each event, if it is never quiet; SYNCs and ticks are nothing to it.
func TestAtOnce(t *testing.T) {
	for _, typ := range []int{254, 255} {
		started(t, api.Form{Type: typ}).wants("EEEstEsttttsstE")
	}
}

// P15.2: quiet for each Inhibit, with an event that waits and without.
func TestQuiet(t *testing.T) {
	for _, typ := range []int{254, 255} {
		for inhibit := 1; inhibit <= 300; inhibit++ {
			d := started(t, api.Form{Type: typ, Inhibit: uint64(inhibit)})
			d.wants("Ee")
			for range inhibit - 1 {
				d.wants("tes")
			}
			d.wants("Te")
			for range inhibit - 1 {
				d.wants("st")
			}
			d.wants("T")
			for range inhibit {
				d.wants("t")
			}
			d.wants("E")
		}
	}
	d := started(t, api.Form{Type: 254, Inhibit: 1})
	d.wants("EeTeTtEtE")
	d = started(t, api.Form{Type: 254, Inhibit: 2})
	d.wants("EttE")
	d.wants("teTttE")
}

// P15.2: several events that wait are sent as one.
func TestWaitsOnce(t *testing.T) {
	started(t, api.Form{Type: 254, Inhibit: 2}).wants("EeeeteeTttttE")
}

// P15.2: behind Event ticks it is sent in any case, counted from its start, and from each time that it was sent.
func TestInAnyCase(t *testing.T) {
	for _, typ := range []int{254, 255} {
		for event := 1; event <= 300; event++ {
			d := started(t, api.Form{Type: typ, Event: uint64(event)})
			for range 3 {
				for range event - 1 {
					d.wants("ts")
				}
				d.wants("T")
			}
			for range event - 1 {
				d.wants("t")
			}
			d.wants("E")
			for range event - 1 {
				d.wants("t")
			}
			d.wants("T")
		}
	}
	started(t, api.Form{Type: 254, Event: 0}).wants("tttttttttt")
}

// P15.2: Event ticks that end while it is quiet: it is sent once it is quiet no more.
func TestInAnyCaseWhileQuiet(t *testing.T) {
	started(t, api.Form{Type: 254, Inhibit: 5, Event: 2}).wants("tTttttTttttT")
	started(t, api.Form{Type: 254, Inhibit: 5, Event: 2}).wants("EttettTtetttTttttT")
	started(t, api.Form{Type: 254, Inhibit: 5, Event: 5}).wants("ttttTttttTettttT")
	started(t, api.Form{Type: 254, Inhibit: 3, Event: 5}).wants("EettTttttTtetT")
	started(t, api.Form{Type: 254, Inhibit: 1, Event: 1}).wants("TTeTeTT")
}

// P15.2: the longest times: nothing early, and just at their ends. (Tests reach in, as nobody ticks so often.)
func TestLongest(t *testing.T) {
	s, _ := NewSender(api.Form{Type: 254, Inhibit: far, Event: far})
	s.Start(true)
	for range 100000 {
		if s.Tick() {
			t.Fatal("sent early")
		}
	}
	s.since = far - 2
	if s.Tick() || !s.Tick() || s.Event() {
		t.Fatal("at Event ticks")
	}
	for range 100000 {
		if s.Event() || s.Tick() {
			t.Fatal("not quiet")
		}
	}
	s.quiet, s.since = 2, far-2
	if s.Tick() || s.Event() || !s.Tick() || s.Event() {
		t.Fatal("at Inhibit ticks")
	}
	s, _ = NewSender(api.Form{Type: 255, Inhibit: far})
	s.Start(true)
	if !s.Event() {
		t.Fatal("not sent")
	}
	s.quiet = 1
	if s.Event() || !s.Tick() || s.Event() || s.Tick() {
		t.Fatal("at Inhibit ticks")
	}
}

// P15.8: one that is stopped sends nothing, whatever waits, is due or comes; started again all of it is gone.
func TestStopped(t *testing.T) {
	started(t, api.Form{}).wants("e-ses+sseS")
	started(t, api.Form{Type: 3}).wants("ss-sss+ssSs-s+ssS")
	started(t, api.Form{Type: 254, Inhibit: 3}).wants("Ee-etttt+tttt")
	started(t, api.Form{Type: 254, Inhibit: 3}).wants("Eet-+E")
	started(t, api.Form{Type: 254, Inhibit: 3}).wants("Ee-+tttEettT")
	started(t, api.Form{Type: 254, Event: 3}).wants("tt-tttt+ttTtt-+ttT")
	started(t, api.Form{Type: 255, Inhibit: 4, Event: 2}).wants("Ete-ttttt+tTtttT")
}

// The rule on objects: two senders know nothing of one another.
func TestTwoSenders(t *testing.T) {
	a, b := deskOf(t, api.Form{Type: 254, Inhibit: 2}), deskOf(t, api.Form{Type: 254, Inhibit: 2})
	a.wants("+Ee")
	b.wants("et+")
	a.wants("t")
	b.wants("Ee")
	a.wants("T-")
	b.wants("tT")
	a.wants("+E")
}

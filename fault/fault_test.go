package fault

import (
	"testing"

	"tramway/api"
)

// P3.1
func TestNew(t *testing.T) {
	if api.Active != 0 || api.Passive != 1 || api.Off != 2 {
		t.Error("other numbers of the states")
	}
	isNew(t, New())
	a, b := New(), New()
	times(a, 32, failed)
	isOff(t, a, 0)
	isNew(t, b)
}

// P3.1: what each call makes of each pair of counts, all of them.
func TestCallsAtAllCounts(t *testing.T) {
	for sending := range 256 {
		for receiving := range 256 {
			u := at(t, sending, receiving)
			passive := sending > 127 || receiving > 127
			now := func(make func(*Unit), s, r int) {
				t.Helper()
				v := *u
				make(&v)
				if s > 255 {
					isOff(t, &v, r)
					return
				}
				counts(t, &v, s, r)
				if v.State() == api.Off {
					t.Fatal("Off", sending, receiving)
				}
			}
			now(sent, max(sending-1, 0), receiving)
			now(failed, sending+8, receiving)
			if passive {
				now(quiet, sending, receiving)
			} else {
				now(quiet, sending+8, receiving)
			}
			now(received, sending, receivedFrom(receiving))
			now(erred, sending, min(receiving+1, 255))
			now(late, sending, min(receiving+8, 255))
		}
	}
}

// receivedFrom is what a frame that was received makes of a count of receiving.
func receivedFrom(receiving int) int {
	if receiving > 127 {
		return 120
	}
	return max(receiving-1, 0)
}

// P3.1, written out at its edges.
func TestCallsAtEdges(t *testing.T) {
	for _, c := range []struct {
		sending, receiving int
		make               func(*Unit)
		s, r, state        int
	}{
		{0, 0, sent, 0, 0, api.Active},
		{1, 0, sent, 0, 0, api.Active},
		{128, 0, sent, 127, 0, api.Active},
		{129, 0, sent, 128, 0, api.Passive},
		{255, 3, sent, 254, 3, api.Passive},
		{0, 0, received, 0, 0, api.Active},
		{0, 1, received, 0, 0, api.Active},
		{0, 2, received, 0, 1, api.Active},
		{0, 121, received, 0, 120, api.Active},
		{0, 120, received, 0, 119, api.Active},
		{0, 127, received, 0, 126, api.Active},
		{0, 128, received, 0, 120, api.Active},
		{0, 129, received, 0, 120, api.Active},
		{0, 255, received, 0, 120, api.Active},
		{128, 255, received, 128, 120, api.Passive},
		{0, 0, failed, 8, 0, api.Active},
		{119, 0, failed, 127, 0, api.Active},
		{120, 0, failed, 128, 0, api.Passive},
		{247, 0, failed, 255, 0, api.Passive},
		{248, 9, failed, 256, 9, api.Off},
		{249, 0, failed, 256, 0, api.Off},
		{255, 255, failed, 256, 255, api.Off},
		{0, 0, quiet, 8, 0, api.Active},
		{127, 0, quiet, 135, 0, api.Passive},
		{127, 127, quiet, 135, 127, api.Passive},
		{128, 0, quiet, 128, 0, api.Passive},
		{0, 128, quiet, 0, 128, api.Passive}, // Passive by the other count alone
		{127, 128, quiet, 127, 128, api.Passive},
		{255, 0, quiet, 255, 0, api.Passive},
		{0, 128, failed, 8, 128, api.Passive},
		{0, 0, erred, 0, 1, api.Active},
		{0, 126, erred, 0, 127, api.Active},
		{0, 127, erred, 0, 128, api.Passive},
		{0, 254, erred, 0, 255, api.Passive},
		{0, 255, erred, 0, 255, api.Passive},
		{0, 0, late, 0, 8, api.Active},
		{0, 119, late, 0, 127, api.Active},
		{0, 120, late, 0, 128, api.Passive},
		{0, 247, late, 0, 255, api.Passive},
		{0, 248, late, 0, 255, api.Passive},
		{7, 255, late, 7, 255, api.Passive},
	} {
		u := at(t, c.sending, c.receiving)
		c.make(u)
		counts(t, u, c.s, c.r)
		if u.State() != c.state {
			t.Error(c.sending, c.receiving, u.State())
		}
	}
}

// P3.2
func TestStateAndWarns(t *testing.T) {
	for sending := range 256 {
		for receiving := range 256 {
			u := at(t, sending, receiving)
			state := api.Active
			if sending > 127 || receiving > 127 {
				state = api.Passive
			}
			if u.State() != state || u.Warns() != (sending > 95 || receiving > 95) {
				t.Fatal(sending, receiving, u.State(), u.Warns())
			}
		}
	}
	for _, receiving := range edges {
		isOff(t, offAt(t, receiving), receiving)
	}
	for _, c := range []struct {
		sending, receiving int
		warns              bool
	}{{95, 95, false}, {96, 0, true}, {0, 96, true}, {127, 127, true}, {255, 255, true}} {
		if at(t, c.sending, c.receiving).Warns() != c.warns {
			t.Error(c.sending, c.receiving)
		}
	}
}

// P3.2: what is asked changes nothing.
func TestAskingChangesNothing(t *testing.T) {
	units := []*Unit{New(), at(t, 95, 96), at(t, 127, 128), at(t, 255, 255), offAt(t, 200)}
	units = append(units, offAt(t, 1))
	units[5].Idle(100)
	for i, u := range units {
		was := *u
		for range 3 {
			u.State()
			u.Counts()
			u.Warns()
		}
		if *u != was {
			t.Error("unit", i, "is another one", was, *u)
		}
	}
}

// P3.1, P3.2: while a unit is Off no call counts, nor does it take away idle rows that were told.
func TestOffCountsNothing(t *testing.T) {
	for _, receiving := range edges {
		for _, rows := range []int{0, 1, 64, 127} {
			for _, c := range counting() {
				u := offAt(t, receiving)
				if u.Idle(rows) {
					t.Fatal("back behind", rows)
				}
				times(u, 40, c.make)
				isOff(t, u, receiving)
				wantsRows(t, u, 128-rows)
			}
		}
	}
}

// P3.2: a unit that just came back has no counts, and counts again.
func TestJustBehindItsReturn(t *testing.T) {
	for _, receiving := range edges {
		u := offAt(t, receiving)
		if u.Idle(127) || !u.Idle(1) {
			t.Fatal("not back behind 128")
		}
		isNew(t, u)
		u.Failed(false)
		u.Erred(true)
		counts(t, u, 8, 8)
		u.Sent()
		u.Received()
		counts(t, u, 7, 7)
	}
}

// The chapter's example, and each step on the way.
func TestQuietlyNinetyNineTimes(t *testing.T) {
	u := New()
	for i := range 99 {
		u.Failed(true)
		counts(t, u, min(8*(i+1), 128), 0)
		if passive := i >= 15; passive != (u.State() == api.Passive) {
			t.Fatal(i, u.State())
		}
	}
	counts(t, u, 128, 0)
}

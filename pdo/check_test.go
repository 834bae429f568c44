package pdo

import (
	"testing"

	"tramway/api"
)

// wantForm looks at Check and NewSender, which ask the same.
func wantForm(t *testing.T, f api.Form, want api.Errno) {
	t.Helper()
	if err := Check(f); err != want {
		t.Fatalf("Check(%v): %d, want %d", f, err, want)
	}
	if s, err := NewSender(f); err != want || (s != nil) != (want == ok) {
		t.Fatalf("NewSender(%v): %v %d, want %d", f, s, err, want)
	}
}

// P15.1: each type that may be, with the least and the greatest times, whether they play a part or not.
func TestForms(t *testing.T) {
	for _, typ := range types() {
		for _, inhibit := range []uint64{0, 1, far - 1, far} {
			for _, event := range []uint64{0, 1, far - 1, far} {
				wantForm(t, api.Form{Type: typ, Inhibit: inhibit, Event: event}, ok)
			}
		}
	}
}

// P15.1: types that may not be, and times that are too long, by themselves and together.
func TestBadForms(t *testing.T) {
	for _, typ := range badTypes() {
		wantForm(t, api.Form{Type: typ}, errArg)
		wantForm(t, api.Form{Type: typ, Inhibit: far, Event: far}, errArg)
		wantForm(t, api.Form{Type: typ, Inhibit: far + 1}, errArg)
	}
	for _, typ := range types() {
		for _, long := range []uint64{far + 1, far + 2, 2 * far, 1 << 63, end} {
			wantForm(t, api.Form{Type: typ, Inhibit: long}, errArg)
			wantForm(t, api.Form{Type: typ, Event: long}, errArg)
			wantForm(t, api.Form{Type: typ, Inhibit: long, Event: long}, errArg)
		}
	}
}

// P15.3: the types of which a taker may be, and others.
func TestNewTaker(t *testing.T) {
	for _, typ := range types() {
		tillOf(t, typ)
	}
	for _, typ := range badTypes() {
		if k, err := NewTaker(typ); k != nil || err != errArg {
			t.Fatalf("NewTaker(%d): %v %d", typ, k, err)
		}
	}
}

// The rule on ends: senders and takers that no call made end, too.
func TestZeroValues(t *testing.T) {
	var s Sender
	var k Taker
	for _, on := range []bool{false, true, true, false} {
		s.Start(on)
		s.Event()
		s.Sync(-1)
		s.Tick()
		k.Start(on)
		k.Take(nil)
		k.Sync()
	}
}

package fault

import (
	"math"
	"testing"

	"tramway/api"
)

// P3.3
func TestSoOftenAndNoMore(t *testing.T) {
	for _, receiving := range edges {
		u := at(t, 0, receiving)
		for i := range 31 {
			u.Failed(false)
			counts(t, u, 8*(i+1), receiving)
			if u.State() == api.Off {
				t.Fatal("Off behind", i+1)
			}
		}
		u.Failed(false)
		isOff(t, u, receiving)
	}
}

// P3.3: from wherever it begins a unit that fails quietly is not Off, and its count does not even grow beyond the first that is above 127.
func TestQuietlyForEver(t *testing.T) {
	for sending := range 256 {
		for _, receiving := range edges {
			u := at(t, sending, receiving)
			times(u, 100, quiet)
			s, _ := u.Counts()
			if u.State() != api.Passive || s > max(sending, 135) {
				t.Fatal(sending, receiving, s, u.State())
			}
			times(u, 100, received) // no more Passive by that count, and quiet ones may count again
			times(u, 100, quiet)
			if u.State() != api.Passive {
				t.Fatal(sending, receiving, u.State())
			}
		}
	}
	u := New()
	times(u, 100000, quiet)
	counts(t, u, 128, 0)
}

// P3.3: quiet ones that fill up what failures aloud left do not throw a unit off; one aloud does.
func TestQuietBehindLoud(t *testing.T) {
	u := New()
	times(u, 31, failed)
	times(u, 50, quiet)
	counts(t, u, 248, 0)
	u.Failed(false)
	isOff(t, u, 0)
}

// P3.4: one by one, in two parts, in any parts, with calls that tell nothing between.
func TestBackBehind128(t *testing.T) {
	wantsRows(t, offAt(t, 0), 128)
	for first := range 128 {
		u := offAt(t, 77)
		if u.Idle(first) {
			t.Fatal("back behind", first)
		}
		isOff(t, u, 77)
		short, just, more := *u, *u, *u
		if short.Idle(127 - first) {
			t.Fatal("back behind 127, first", first)
		}
		wantsRows(t, &short, 1)
		if !just.Idle(128-first) || !more.Idle(129-first) {
			t.Fatal("not back behind 128 and 129, first", first)
		}
		isNew(t, &just)
		isNew(t, &more)
	}
	d := dice(3)
	for range 300 {
		u, rows := offAt(t, 0), 0
		for rows < 128 {
			n := d.below(40) - 5
			rows += max(n, 0)
			if u.Idle(n) != (rows >= 128) {
				t.Fatal(n, rows)
			}
		}
		isNew(t, u)
	}
}

// P3.2, P3.4: a very great n wraps nowhere, wherever the rows stand.
func TestVeryManyRows(t *testing.T) {
	for rows := range 128 {
		for _, n := range []int{128, 129, math.MaxInt32, 1 << 32, math.MaxInt - 128, math.MaxInt - 1, math.MaxInt} {
			u := offAt(t, 5)
			u.Idle(rows)
			if !u.Idle(n) {
				t.Fatal("not back", rows, n)
			}
			isNew(t, u)
		}
	}
}

// P3.2: n below 0 is 0.
func TestNoRows(t *testing.T) {
	for rows := range 128 {
		u := offAt(t, 5)
		u.Idle(rows)
		for _, n := range []int{0, -1, -127, -128, -129, math.MinInt32, math.MinInt + 1, math.MinInt} {
			if u.Idle(n) {
				t.Fatal("back", rows, n)
			}
			isOff(t, u, 5)
		}
		wantsRows(t, u, 128-rows)
	}
}

// P3.2: rows that are told while a unit is on the bus are nothing, and are not kept for later.
func TestRowsOnTheBus(t *testing.T) {
	for _, sending := range edges {
		for _, receiving := range edges {
			u := at(t, sending, receiving)
			for _, n := range []int{math.MinInt, -1, 0, 1, 127, 128, math.MaxInt} {
				if u.Idle(n) {
					t.Fatal(sending, receiving, n)
				}
			}
			counts(t, u, sending, receiving)
			times(u, 32, failed)
			isOff(t, u, receiving)
			wantsRows(t, u, 128)
		}
	}
}

// P3.4: the rows begin anew each time it goes off; those beyond 128 are not kept.
func TestOffAgain(t *testing.T) {
	u := New()
	for range 3 {
		times(u, 32, failed)
		wantsRows(t, u, 128)
		u.Idle(100)
		if !u.Idle(100) {
			t.Fatal("not back behind 200")
		}
		isNew(t, u)
	}
}

// P3.5
func TestGoodOnesMakeUp(t *testing.T) {
	d := dice(5)
	for _, failure := range []func(*Unit){failed, quiet} {
		u := New()
		for range 1000 {
			failure(u)
			if u.State() != api.Active {
				t.Fatal("not Active")
			}
			times(u, 8+d.below(3), sent)
			counts(t, u, 0, 0)
		}
	}
	u := New()
	for range 1000 { // seven are too few
		u.Failed(false)
		times(u, 7, sent)
	}
	if u.State() != api.Off {
		t.Error("seven frames make up, too:", u.State())
	}
}

// P3.6, at all counts.
func TestApart(t *testing.T) {
	for sending := range 256 {
		for receiving := range 256 {
			u := at(t, sending, receiving)
			for i, c := range counting() {
				v := *u
				c.make(&v)
				s, r := v.Counts()
				ofReceiving := i == 1 || i > 3
				if ofReceiving && s != sending || !ofReceiving && r != receiving {
					t.Fatal(c.name, sending, receiving, s, r)
				}
			}
		}
	}
}

// P3.7: from wherever it is reset a unit is as a new one, and then does what a new one does.
func TestAnew(t *testing.T) {
	var units []*Unit
	for _, sending := range edges {
		for _, receiving := range edges {
			units = append(units, at(t, sending, receiving))
		}
	}
	for _, rows := range []int{0, 1, 64, 127} {
		u := offAt(t, 130)
		u.Idle(rows)
		units = append(units, u)
	}
	for i, u := range units {
		u.Reset()
		isNew(t, u)
		runBeside(t, u, New(), dice(i+1), 200)
		u.Reset()
		times(u, 32, failed)
		wantsRows(t, u, 128)
	}
}

// runBeside makes the same calls on two units, which must answer alike.
func runBeside(t *testing.T, a, b *Unit, d dice, steps int) {
	t.Helper()
	calls := counting()
	for i := range steps {
		if k := d.below(len(calls) + 2); k < len(calls) {
			calls[k].make(a)
			calls[k].make(b)
		} else if n := d.below(60); a.Idle(n) != b.Idle(n) {
			t.Fatal("step", i, "Idle", n)
		}
		s, r := b.Counts()
		counts(t, a, s, r)
		if a.State() != b.State() || a.Warns() != b.Warns() {
			t.Fatal("step", i, a.State(), b.State())
		}
	}
}

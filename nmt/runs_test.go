package nmt

import "testing"

// P17.1 to P17.3: all rows of some calls, of nodes with and without a number, against their clerks.
func TestAllShortRuns(t *testing.T) {
	const kinds, long = 11, 5
	rows := 1
	for range long {
		rows *= kinds
	}
	for _, id := range []int{0, 5} {
		for n := range rows {
			d := deskOf(t, id)
			for range long {
				d.call(n % kinds)
				n /= kinds
			}
		}
	}
}

// call makes one of a few calls.
func (d *desk) call(kind int) {
	d.t.Helper()
	switch kind {
	case 0, 1:
		d.step()
	case 2:
		d.take(toRun, 0)
	case 3:
		d.take(toStop, 5)
	case 4:
		d.take(toReady, 9)
	case 5:
		d.take(toBoot, 5)
	case 6:
		d.take(toTalk, 0)
	case 7:
		d.take(toBoot, 9)
	case 8:
		d.setID(0)
	case 9:
		d.setID(5)
	default:
		d.setID(9)
	}
}

// P17.1 to P17.3: long runs of nodes against their clerks.
func TestRuns(t *testing.T) {
	r := dice(17)
	for range 1000 {
		d := deskOf(t, r.below(4))
		for range 150 {
			switch n := r.below(20); {
			case n == 0:
				d.setID(r.below(200) - 40)
			case n < 3:
				d.setID(r.below(4))
			case n < 8:
				d.step()
			case n == 8:
				d.take(byte(r.next()), byte(r.below(4)))
			case n == 9:
				d.take(r.command(), byte(r.next()))
			case n == 10:
				d.take(r.command())
			case n < 16:
				d.take(r.command(), 0)
			default:
				d.take(r.command(), byte(r.below(4)))
			}
		}
	}
}

// P17.5, P17.6, P17.8: it is Run only behind a ToRun since it was Boot last; its state is that of the last command; each beginning is counted once.
func TestWhatComesLast(t *testing.T) {
	r := dice(5)
	for range 500 {
		id := 1 + r.below(127)
		n, _ := New(id)
		told, last, boots, talks := false, boot, 0, 0
		for range 200 {
			if _, is := n.Step(); is {
				last = ready
			}
			to := byte(r.below(2) * id)
			if r.below(4) == 0 {
				to = byte(r.next())
			}
			switch command := n.Take([]byte{r.command(), to}); command {
			case 0:
			case toRun:
				told, last = true, run
			case toBoot:
				told, last, boots = false, boot, boots+1
			case toTalk:
				told, last, talks = false, boot, talks+1
			default:
				last = leads[command]
			}
			if n.State() == run && !told || n.State() != last {
				t.Fatalf("it is %d, the last one led to %d, ToRun: %v", n.State(), last, told)
			}
			if a, b := n.Boots(); a != boots || b != talks {
				t.Fatalf("Boots: %d %d, want %d %d", a, b, boots, talks)
			}
		}
	}
}

// P17.5: without a ToRun it is never Run, whatever else it takes.
func TestNeverAtOnce(t *testing.T) {
	r := dice(55)
	for range 200 {
		id := r.below(4)
		n, _ := New(id)
		for range 300 {
			n.Step()
			n.SetID(r.below(4))
			if b := byte(r.next()); b != toRun {
				n.Take([]byte{b, byte(r.below(4))})
			}
			n.Take([]byte{r.command() | 1<<6, 0})
			if n.State() == run {
				t.Fatal("it is Run")
			}
		}
	}
}

// P17.7: a command to another node does nothing; one to all does what one to the node does.
func TestItsOwn(t *testing.T) {
	r := dice(7)
	for range 300 {
		id := 1 + r.below(127)
		own, _ := New(id)
		all, _ := New(id)
		for range 200 {
			a, _ := own.Step()
			b, _ := all.Step()
			if len(a) != len(b) {
				t.Fatalf("Step: %x and %x", a, b)
			}
			if other := byte(r.next()); other != 0 && int(other) != id {
				if is := own.Take([]byte{r.command(), other}); is != 0 {
					t.Fatalf("%d takes what is for %d: %d", id, other, is)
				}
			}
			command := r.command()
			x, y := own.Take([]byte{command, byte(id)}), all.Take([]byte{command, 0})
			if x != int(command) || x != y || *own != *all {
				t.Fatalf("to %d: %d %v, to all: %d %v", id, x, *own, y, *all)
			}
		}
	}
}

// P17.8: many beginnings are counted, each kind for itself, whatever number it has.
func TestCounted(t *testing.T) {
	n, _ := New(1)
	for i := range 3000 {
		n.Step()
		n.SetID(1 + i%127)
		n.Take([]byte{toBoot, 0})
		n.Take([]byte{toTalk, 0})
		n.Step()
		n.Take([]byte{toTalk, 0})
		n.Take([]byte{toTalk, 0})
		if i%3 == 0 {
			n.Step()
			n.Take([]byte{toTalk, byte(n.ID())})
		}
	}
	if a, b := n.Boots(); a != 3000 || b != 4000 {
		t.Fatalf("Boots: %d %d", a, b)
	}
}

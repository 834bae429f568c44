package nmt

import (
	"bytes"
	"testing"
)

// P17.1: what a node is made of, and what not.
func TestNew(t *testing.T) {
	for id := range 128 {
		deskOf(t, id).wantHas(boot, id, 0, 0)
	}
	for _, id := range badNumbers {
		if n, err := New(id); n != nil || err != errArg {
			t.Fatalf("New(%d): %v %d", id, n, err)
		}
	}
}

// P17.2, P17.3: the document's example.
func TestExample(t *testing.T) {
	d := deskOf(t, 5)
	d.wantHas(boot, 5, 0, 0)
	d.wantStep(true)
	d.wantHas(ready, 5, 0, 0)
	d.wantTake(1, 1, 5)
	d.wantHas(run, 5, 0, 0)
}

// P17.3: it steps just if it is Boot and has a number, and but once.
func TestStep(t *testing.T) {
	for id := range 128 {
		d := deskOf(t, id)
		d.wantStep(id > 0)
		d.wantStep(false)
		if id > 0 {
			d.wantHas(ready, id, 0, 0)
		} else {
			d.wantHas(boot, 0, 0, 0)
		}
	}
	for _, state := range []int{ready, run, stop} {
		d := deskIn(t, 7, state)
		d.wantStep(false)
		d.wantHas(state, 7, 0, 0)
	}
	for _, again := range []byte{toBoot, toTalk} {
		d := deskIn(t, 7, run)
		d.take(again, 7)
		d.wantStep(true)
		d.wantStep(false)
	}
}

// P17.3: one without a number steps once it has one.
func TestStepWithoutNumber(t *testing.T) {
	d := deskOf(t, 0)
	d.wantStep(false)
	d.setID(0)
	d.wantStep(false)
	d.setID(128)
	d.wantStep(false)
	d.setID(3)
	d.wantStep(true)
	d.wantHas(ready, 3, 0, 0)
	d.setID(0)
	d.wantTake(toBoot, toBoot, 3)
	d.wantHas(boot, 0, 1, 0)
	d.wantStep(false)
	d.wantTake(0, toRun, 0)
	d.wantTake(0, toRun, 3)
	d.setID(4)
	d.wantStep(true)
	d.wantTake(0, toRun, 3)
	d.wantTake(toRun, toRun, 4)
}

// P17.2: each two bytes, in each state, by nodes of the least, the greatest and other numbers, and by one that has none.
func TestTakeEachPair(t *testing.T) {
	for _, id := range []int{0, 1, 2, 5, 126, 127} {
		for _, state := range []int{boot, ready, run, stop} {
			if id == 0 && state != boot {
				continue
			}
			for n := range 1 << 16 {
				wantPair(t, id, state, byte(n>>8), byte(n))
			}
		}
	}
}

// wantPair: a command that is for a node leads to its state; anything else does nothing.
func wantPair(t *testing.T, id, state int, command, to byte) {
	t.Helper()
	n, _ := New(id)
	n.state = state
	after, is := leads[int(command)]
	want := 0
	if is && state != boot && (to == 0 || int(to) == id) {
		want = int(command)
	} else {
		after = state
	}
	if is := n.Take([]byte{command, to}); is != want || n.State() != after || n.ID() != id {
		t.Fatalf("%d in %d: Take(%x %x): %d, then %d; want %d, then %d", id, state, command, to, is, n.State(), want, after)
	}
}

// P17.2: what has not two bytes does nothing.
func TestTakeOtherLengths(t *testing.T) {
	for _, state := range []int{boot, ready, run, stop} {
		for _, command := range commands {
			d := deskIn(t, 5, state)
			if is := d.n.Take(nil); is != 0 {
				t.Fatalf("Take of nil: %d", is)
			}
			d.wantTake(0)
			d.wantTake(0, byte(command))
			d.wantTake(0, byte(command), 5, 0)
			d.wantTake(0, byte(command), 0, 0)
			d.wantTake(0, byte(command), 5, 0, 0, 0, 0, 0, 0)
			d.take(bytes.Repeat([]byte{byte(command), 0}, 1000)...)
			d.wantHas(state, 5, 0, 0)
		}
	}
}

// P17.2: from each state each command leads to its own, and may be said again.
func TestTakeFromEachState(t *testing.T) {
	for _, state := range []int{ready, run, stop} {
		for _, command := range commands {
			for _, to := range []byte{0, 5} {
				d := deskIn(t, 5, state)
				d.wantTake(command, byte(command), to)
				again := command
				if leads[command] == boot {
					again = 0
				}
				d.wantTake(again, byte(command), to)
			}
		}
	}
}

// P17.1: a number that is given in another state than Boot is its own from the next ToBoot or ToTalk on.
func TestSetIDLater(t *testing.T) {
	for _, state := range []int{ready, run, stop} {
		for _, again := range []byte{toBoot, toTalk} {
			for id := range 128 {
				d := deskIn(t, 5, state)
				d.setID(id)
				d.wantHas(state, 5, 0, 0)
				for _, command := range []byte{toRun, toStop, toReady} {
					d.wantTake(int(command), command, 5)
					if id != 5 && id != 0 {
						d.wantTake(0, command, byte(id))
					}
				}
				d.wantHas(ready, 5, 0, 0)
				d.wantTake(int(again), again, 5)
				d.wantHas(boot, id, d.k.times(toBoot), d.k.times(toTalk))
				d.wantStep(id > 0)
			}
		}
	}
}

// P17.1: of several numbers the last one counts, be it the one that it has.
func TestSetIDAgain(t *testing.T) {
	d := deskIn(t, 5, ready)
	d.setID(9)
	d.setID(7)
	d.wantTake(toTalk, toTalk, 0)
	d.wantHas(boot, 7, 0, 1)
	d.wantStep(true)
	d.setID(9)
	d.setID(7)
	d.wantTake(toBoot, toBoot, 0)
	d.wantHas(boot, 7, 1, 1)
	d.setID(3)
	d.setID(4)
	d.wantHas(boot, 4, 1, 1)
	d.wantStep(true)
	d.wantTake(toBoot, toBoot, 4)
	d.wantHas(boot, 4, 2, 1)
}

// P17.1: a number that is given while it is Boot is its own at once, and stays it.
func TestSetIDAtOnce(t *testing.T) {
	for id := range 128 {
		d := deskOf(t, 5)
		d.setID(id)
		d.wantHas(boot, id, 0, 0)
		d.wantStep(id > 0)
		if id > 0 {
			d.wantTake(toTalk, toTalk, byte(id))
			d.wantHas(boot, id, 0, 1)
		}
	}
}

// P17.1: what is no number is refused, and changes neither the number that it has nor the one that it is to have.
func TestSetIDWrong(t *testing.T) {
	for _, id := range badNumbers {
		for _, state := range []int{boot, ready, run, stop} {
			d := deskIn(t, 5, state)
			if err := d.n.SetID(id); err != errArg {
				t.Fatalf("SetID(%d): %d", id, err)
			}
			d.wantHas(state, 5, 0, 0)
			d.setID(8)
			d.setID(id)
			d.step()
			d.take(toBoot, 0)
			d.wantHas(boot, 8, 1, 0)
		}
	}
}

// The rule on memory: what is handed in is neither changed nor kept, and what is told is new.
func TestMemory(t *testing.T) {
	room := []byte{7, toRun, 5, 8, 9}
	d := deskIn(t, 5, ready)
	if is := d.n.Take(room[1:3]); is != toRun || !bytes.Equal(room, []byte{7, toRun, 5, 8, 9}) {
		t.Fatalf("Take: %d, and then %x", is, room)
	}
	spoil(room)
	if d.n.State() != run || d.n.ID() != 5 {
		t.Fatalf("it has %d %d", d.n.State(), d.n.ID())
	}
	a, _ := New(1)
	first, _ := a.Step()
	a.Take([]byte{toBoot, 1})
	second, _ := a.Step()
	spoil(first)
	if !bytes.Equal(second, []byte{0}) {
		t.Fatalf("Step, again: %x", second)
	}
	a.Take([]byte{toBoot, 1})
	if third, is := a.Step(); !bytes.Equal(third, []byte{0}) || !is {
		t.Fatalf("Step, once more: %x", third)
	}
}

// The rule on objects: two nodes know nothing of one another.
func TestTwoNodes(t *testing.T) {
	a, b := deskOf(t, 5), deskOf(t, 5)
	a.wantStep(true)
	b.wantHas(boot, 5, 0, 0)
	b.setID(6)
	b.wantStep(true)
	a.wantTake(toTalk, toTalk, 0)
	a.wantHas(boot, 5, 0, 1)
	b.wantHas(ready, 6, 0, 0)
}

// The rule on ends: a node that New did not make ends, too.
func TestZeroValue(t *testing.T) {
	var n Node
	for range 2 {
		n.Step()
		n.Take([]byte{toRun, 0})
		n.Boots()
		n.State()
		n.ID()
		n.SetID(5)
	}
}

package pdo

import (
	"bytes"
	"testing"
)

// P15.3: of 254 and 255 what comes counts at once, each time, and never with a SYNC.
func TestTakeAtOnce(t *testing.T) {
	for _, typ := range []int{254, 255} {
		h := tillOf(t, typ)
		h.start(true)
		for _, text := range []string{"a", "bc", "", "12345678", "a", "a"} {
			h.wantTake(text, text, true)
			h.wantSync("", false)
			h.take(text)
			h.sync()
		}
	}
}

// P15.3, P15.6: of the others what came last counts with the next SYNC, of whatever number, once.
func TestTakeAtSync(t *testing.T) {
	for typ := 0; typ <= 240; typ++ {
		h := tillOf(t, typ)
		h.start(true)
		h.wantSync("", false)
		h.wantTake("a", "", false)
		h.wantSync("a", true)
		h.wantSync("", false)
		h.wantTake("long one", "", false)
		h.wantTake("b", "", false)
		h.wantTake("cd", "", false)
		h.wantSync("cd", true)
		h.wantSync("", false)
		h.wantTake("b", "", false)
		h.wantSync("b", true)
		h.wantTake("e", "", false)
		h.wantSync("e", true)
	}
}

// P15.3: an object without bytes comes, too, and takes the place of the one that waited.
func TestTakeNothing(t *testing.T) {
	for _, none := range [][]byte{nil, {}} {
		k, _ := NewTaker(1)
		k.Start(true)
		k.Take([]byte("a"))
		if b, is := k.Take(none); len(b) != 0 || is {
			t.Fatalf("Take: %q %v", b, is)
		}
		if b, is := k.Sync(); len(b) != 0 || !is {
			t.Fatalf("Sync: %q %v", b, is)
		}
		if b, is := k.Sync(); len(b) != 0 || is {
			t.Fatalf("Sync again: %q %v", b, is)
		}
		once, _ := NewTaker(254)
		once.Start(true)
		if b, is := once.Take(none); len(b) != 0 || !is {
			t.Fatalf("Take at once: %q %v", b, is)
		}
	}
}

// P15.3: the chapter sets no bound to an object.
func TestTakeMuch(t *testing.T) {
	long := string(bytes.Repeat([]byte("0123456789"), 10000))
	h := tillOf(t, 5)
	h.start(true)
	h.wantTake(long, "", false)
	h.wantSync(long, true)
	h = tillOf(t, 255)
	h.start(true)
	h.wantTake(long, long, true)
}

// P15.3: one that is not started takes nothing, and tells nothing.
func TestTakerNotStarted(t *testing.T) {
	for _, typ := range types() {
		h := tillOf(t, typ)
		h.wantTake("a", "", false)
		h.wantSync("", false)
		h.start(false)
		h.wantTake("a", "", false)
		h.start(true)
		h.wantSync("", false)
		h.take("b")
		h.sync()
	}
}

// P15.3: Start(true) of one that is started leaves what waits.
func TestTakerStartTwice(t *testing.T) {
	h := tillOf(t, 0)
	h.start(true)
	h.wantTake("a", "", false)
	h.start(true)
	h.wantSync("a", true)
	h.start(true)
	h.wantSync("", false)
}

// P15.3: one that is stopped tells nothing; started again nothing came, neither ahead nor meanwhile.
func TestTakerStopped(t *testing.T) {
	for _, typ := range []int{0, 1, 240} {
		h := tillOf(t, typ)
		h.start(true)
		h.wantTake("a", "", false)
		h.start(false)
		h.wantSync("", false)
		h.wantTake("b", "", false)
		h.wantSync("", false)
		h.start(true)
		h.wantSync("", false)
		h.wantTake("c", "", false)
		h.start(false)
		h.start(true)
		h.wantSync("", false)
		h.wantTake("d", "", false)
		h.wantSync("d", true)
	}
	h := tillOf(t, 254)
	h.start(true)
	h.start(false)
	h.wantTake("a", "", false)
	h.start(true)
	h.wantTake("b", "b", true)
}

// The rule on memory: what was handed in may be written over, and so may what was answered, with all spare room.
func TestTakerMemory(t *testing.T) {
	for _, typ := range []int{0, 240, 254, 255} {
		h := tillOf(t, typ)
		h.start(true)
		for _, text := range []string{"", "a", "12345678", "much longer than an object"} {
			h.take(text)
			h.take(text + "b")
			h.sync()
			h.take(text + "c")
			h.sync()
			h.sync()
		}
	}
	k, _ := NewTaker(3)
	k.Start(true)
	k.Take([]byte("first"))
	first, _ := k.Sync()
	k.Take([]byte("other"))
	if string(first) != "first" {
		t.Fatalf("an answer became %q", first)
	}
	spoil(first)
	if b, _ := k.Sync(); string(b) != "other" {
		t.Fatalf("what waits became %q", b)
	}
}

// The rule on objects: two takers know nothing of one another.
func TestTwoTakers(t *testing.T) {
	a, b := tillOf(t, 1), tillOf(t, 1)
	a.start(true)
	a.wantTake("a", "", false)
	b.wantSync("", false)
	b.start(true)
	b.wantSync("", false)
	b.wantTake("b", "", false)
	a.wantSync("a", true)
	b.start(false)
	a.wantTake("c", "", false)
	b.start(true)
	b.wantSync("", false)
	a.wantSync("c", true)
}

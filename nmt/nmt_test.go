package nmt

import (
	"bytes"
	"math"
	"testing"
)

// P17.2: of all commands just the five, to just the numbers from 0 to 127.
func TestCommand(t *testing.T) {
	for command := -300; command <= 700; command++ {
		_, is := leads[command]
		for node := -3; node <= 300; node++ {
			if is && node >= 0 && node <= 127 {
				wantCommand(t, command, node)
			} else {
				wantNoCommand(t, command, node)
			}
		}
	}
	for _, node := range badNumbers {
		for _, command := range commands {
			wantNoCommand(t, command, node)
		}
	}
	for _, command := range []int{math.MinInt, -1 << 32, 1<<8 + toRun, 1<<16 + toBoot, 1<<32 + toRun, 1<<32 + toTalk, math.MaxInt} {
		for _, node := range []int{0, 5, 127, 128} {
			wantNoCommand(t, command, node)
		}
	}
}

func wantCommand(t *testing.T, command, node int) {
	t.Helper()
	b, err := Command(command, node)
	if !bytes.Equal(b, []byte{byte(command), byte(node)}) || err != ok {
		t.Fatalf("Command(%d, %d): %x %d", command, node, b, err)
	}
}

func wantNoCommand(t *testing.T, command, node int) {
	t.Helper()
	if b, err := Command(command, node); len(b) != 0 || err != errArg {
		t.Fatalf("Command(%d, %d): %x %d", command, node, b, err)
	}
}

// P17.2: what Command answers is taken by a node of that number, and by each one if it is to all.
func TestCommandIsTaken(t *testing.T) {
	for _, command := range commands {
		for node := range 128 {
			b, _ := Command(command, node)
			d := deskIn(t, max(node, 1), ready)
			d.wantTake(command, b...)
			d.wantHas(leads[command], max(node, 1), d.k.times(toBoot), d.k.times(toTalk))
		}
	}
}

// P17.4: what may be done in each state, letter by letter (PDO, SDO, SYNC, EMCY, NMT, beat).
func TestAllows(t *testing.T) {
	may := map[int]string{ready: "-x" + "xxxx", run: "xxxxxx", stop: "----" + "xx", boot: "------"}
	for state := -300; state <= 600; state++ {
		for what := -10; what <= 300; what++ {
			letters := may[state]
			want := what >= 0 && what < len(letters) && letters[what] == 'x'
			if is := Allows(state, what); is != want {
				t.Fatalf("Allows(%d, %d): %v, want %v", state, what, is, want)
			}
		}
	}
	far := []int{math.MinInt, -1 << 32, 1 << 32, 1<<32 + 4, 1<<32 + 5, 1<<32 + ready, math.MaxInt}
	for _, n := range far {
		for what := range 6 {
			if Allows(n, what) {
				t.Fatalf("Allows(%d, %d)", n, what)
			}
		}
		for state := range may {
			if Allows(state, n) {
				t.Fatalf("Allows(%d, %d)", state, n)
			}
		}
	}
}

// The rule on memory: an answer is the caller's own, its spare room too.
func TestCommandsAreNew(t *testing.T) {
	for _, command := range commands {
		a, _ := Command(command, 5)
		b, _ := Command(command, 5)
		spoil(a)
		if !bytes.Equal(b, []byte{byte(command), 5}) {
			t.Fatalf("Command(%d, 5), asked twice: %x", command, b)
		}
		wantCommand(t, command, 5)
	}
}

// spoil writes over a list, its spare room too.
func spoil(b []byte) {
	b = b[:cap(b)]
	for i := range b {
		b[i] = 0xee
	}
}

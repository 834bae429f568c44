package emcy

import (
	"slices"

	"tramway/api"
)

// Teller tells errors, and remembers them.
type Teller struct {
	history int    // how many errors it remembers at most
	inhibit uint64 // for how many ticks it is quiet behind each frame
	now     []api.Trouble
	past    []api.Trouble // the last one first
	waits   [][8]byte
	quiet   uint64 // ticks for which it is quiet yet
}

// New is a teller without errors, with so long a history, quiet for so many ticks behind each frame.
func New(history int, inhibit uint64) (*Teller, api.Errno) {
	if history < 1 || history > mostHistory || inhibit > mostTicks {
		return nil, api.ErrArg
	}
	return &Teller{history: history, inhibit: inhibit}, api.OK
}

// Raise lets an error be there, and be told; false: it can't be, or is there already.
func (t *Teller) Raise(x api.Trouble) bool {
	if x.Code < leastCode || t.find(x.Code) >= 0 {
		return false
	}
	t.now = append(t.now, x)
	t.past = slices.Insert(t.past, 0, x)
	t.past = t.past[:min(len(t.past), t.history)]
	t.tell(x.Code, x.Extra)
	return true
}

// Clear lets an error be there no more, and tells what is left; false: it is not there.
func (t *Teller) Clear(code uint16) bool {
	i := t.find(code)
	if i < 0 {
		return false
	}
	t.now = slices.Delete(t.now, i, i+1)
	t.tell(t.longest(), [5]byte{})
	return true
}

// find is the place of the error of a code among those that are there; below 0: it is not there.
func (t *Teller) find(code uint16) int {
	return slices.IndexFunc(t.now, func(x api.Trouble) bool { return x.Code == code })
}

// longest is the code of the error that is there longest; 0: none is there.
func (t *Teller) longest() uint16 {
	if len(t.now) == 0 {
		return 0
	}
	return t.now[0].Code
}

// tell lets a frame wait, if there is room. The register is the one of now, as errors may come and go while it waits.
func (t *Teller) tell(code uint16, extra [5]byte) {
	if len(t.waits) < mostWaiting {
		t.waits = append(t.waits, write(api.Trouble{Code: code, Register: t.Register(), Extra: extra}))
	}
}

// Tick lets a tick go by: whether there is a frame to tell now.
func (t *Teller) Tick() bool {
	t.quiet -= min(t.quiet, 1)
	return t.mayTell()
}

// Frame is the frame to tell now; false: there is none.
func (t *Teller) Frame() ([8]byte, bool) {
	if !t.mayTell() {
		return [8]byte{}, false
	}
	b := t.waits[0]
	t.waits = slices.Delete(t.waits, 0, 1)
	t.quiet = t.inhibit
	return b, true
}

func (t *Teller) mayTell() bool { return len(t.waits) > 0 && t.quiet == 0 }

// Register is the error register: what the errors that are there have of it.
func (t *Teller) Register() uint8 {
	var all uint8
	for _, x := range t.now {
		all |= x.Register | anyError
	}
	return all
}

// History is what was raised, the last one first.
func (t *Teller) History() []api.Trouble { return slices.Clone(t.past) }

// Forget empties the history; the errors are there still.
func (t *Teller) Forget() { t.past = nil }

// Now is what is there, in the order in which it was raised.
func (t *Teller) Now() []api.Trouble { return slices.Clone(t.now) }

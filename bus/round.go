package bus

import (
	"slices"

	"tramway/api"
	"tramway/frame"
)

const (
	nobody = -1

	// Behind the stuffed body a frame has its sum's delimiter, the acknowledgement, that one's delimiter and seven bits of its end.
	behindBody = 10
	behindAck  = 8

	idleRow = 11 // bits of a round in which nobody sends
	pause   = 3  // bits behind a frame that went well
	broken  = 20 // bits behind the one with which a frame was given up
	shouted = 24 // bits from a flip on, itself one of them, till the wire is free
)

// runner goes through one round. Beside the outcome it knows whose flip was the first one, which a bus must tell that node's unit.
type runner struct {
	api.Outcome
	nodes  []api.Sender
	length int // how many bits the winner's frame has
	late   int // the first flip's node
}

// Round is what comes of a round.
func Round(l []api.Sender, flips []api.Flip) (api.Outcome, api.Errno) {
	r, err := run(l, flips)
	return r.Outcome, err
}

// run is a round and what became of it; beside an error, the zero runner.
func run(l []api.Sender, flips []api.Flip) (runner, api.Errno) {
	if err := look(len(l), flips); err != api.OK {
		return runner{}, err
	}
	r := runner{nodes: l, late: nobody}
	r.Errs, r.Got = make([]api.Errno, len(l)), make([]bool, len(l))
	if err := r.begin(); err != api.OK {
		return runner{}, err
	}
	if r.Winner == nobody {
		r.Bits = idleRow
		return r, api.OK
	}
	r.end(flips)
	return r, api.OK
}

// look tells the error of flips on a wire of so many nodes. Their number goes first, whatever they are.
func look(nodes int, flips []api.Flip) api.Errno {
	if nodes > api.MaxNodes || len(flips) > api.MaxBits {
		return api.ErrLong
	}
	wrong := func(f api.Flip) bool {
		return f.Node < 0 || f.Node >= nodes || f.Bit < 0
	}
	if slices.ContainsFunc(flips, wrong) {
		return api.ErrArg
	}
	return api.OK
}

// begin finds the winner among those that send.
func (r *runner) begin() api.Errno {
	var places []int
	var frames []api.Frame
	for i, n := range r.nodes {
		if n.Up && n.Sends {
			places = append(places, i)
			frames = append(frames, n.Frame)
		}
	}
	if len(frames) == 0 {
		r.Winner = nobody
		return api.OK
	}
	first, err := frame.First(frames)
	if err != api.OK {
		return err
	}
	text, _ := frame.Encode(frames[first], !r.alone())
	r.Winner, r.length = places[first], len(text)
	return api.OK
}

// end tells what came of the winner's frame. A flip that counts goes ahead of all else; one that is alone is not heard, so it gives up ahead of its last bit, whatever that one is.
func (r *runner) end(flips []api.Flip) {
	first, counts := r.firstOf(flips)
	last := func(f api.Flip) bool {
		return f.Node == r.Winner && f.Bit == r.length-1
	}
	switch {
	case counts:
		r.spoil(first)
	case r.alone():
		r.Errs[r.Winner] = api.ErrAck
		r.Bits = r.length - behindAck + broken
	case slices.ContainsFunc(flips, last):
		r.hear()
		r.Errs[r.Winner] = api.ErrFixed
		r.Bits = r.length + broken
	default:
		r.hear()
		r.Sent = true
		r.Bits = r.length + pause
	}
}

// firstOf is the first flip of those that count, if one does. The last bit is no such one: who has read all others has the frame already.
func (r *runner) firstOf(flips []api.Flip) (api.Flip, bool) {
	counts := func(f api.Flip) bool {
		return r.nodes[f.Node].Up && f.Bit < r.length-1
	}
	before := func(a, b api.Flip) bool {
		return a.Bit < b.Bit || a.Bit == b.Bit && a.Node < b.Node
	}
	var first api.Flip
	found := false
	for _, f := range flips {
		if counts(f) && (!found || before(f, first)) {
			first, found = f, true
		}
	}
	return first, found
}

// spoil breaks the frame off at a flip: its node shouts, and all others see six bits of one level.
func (r *runner) spoil(f api.Flip) {
	for i, n := range r.nodes {
		if n.Up {
			r.Errs[i] = api.ErrStuff
		}
	}
	if f.Bit >= r.length-behindBody {
		r.Errs[f.Node] = api.ErrFixed
	}
	r.late = f.Node
	r.Bits = f.Bit + shouted
}

// hear gives the frame to all others that take part.
func (r *runner) hear() {
	for i, n := range r.nodes {
		r.Got[i] = n.Up && i != r.Winner
	}
}

// alone tells whether fewer than two take part.
func (r *runner) alone() bool {
	up := 0
	for _, n := range r.nodes {
		if n.Up {
			up++
		}
	}
	return up < 2
}

package bus

import (
	"math"
	"reflect"
	"slices"
	"testing"

	"tramway/api"
	"tramway/frame"
)

const (
	ok    = api.OK
	stuff = api.ErrStuff
	fixed = api.ErrFixed
)

// three is a round of three nodes, of which the second one wins; its frame has length bits.
func three() (l []api.Sender, length int) {
	f := api.Frame{ID: 8, Len: 2, Data: [8]byte{1, 2}}
	return []api.Sender{sends(api.Frame{ID: 9}), sends(f), up}, lengthOf(f)
}

// P4.1: the winner has Sent, all others that take part Got it.
func TestRoundWithoutFlips(t *testing.T) {
	l, length := three()
	wantRound(t, l, nil, api.Outcome{Winner: 1, Bits: length + 3, Sent: true, Errs: []api.Errno{ok, ok, ok}, Got: []bool{true, false, true}})
	l[2].Up = false
	wantRound(t, l, nil, api.Outcome{Winner: 1, Bits: length + 3, Sent: true, Errs: []api.Errno{ok, ok, ok}, Got: []bool{true, false, false}})
	l[1].Up = false
	wantRound(t, l[1:], nil, api.Outcome{Winner: -1, Bits: 11, Errs: []api.Errno{ok, ok}, Got: []bool{false, false}})
	// A frame of noughts has 34 bits of its body, 6 put in, 10 behind it.
	wantRound(t, []api.Sender{sends(api.Frame{}), up}, nil, api.Outcome{Winner: 0, Bits: 53, Sent: true, Errs: []api.Errno{ok, ok}, Got: []bool{false, true}})
	wantRound(t, []api.Sender{sends(api.Frame{})}, nil, api.Outcome{Winner: 0, Bits: 62, Errs: []api.Errno{api.ErrAck}, Got: []bool{false}})
	// Of base 100 and extended 100 << 18 the base one is first.
	l = []api.Sender{sends(api.Frame{ID: 100 << 18, Extended: true}), sends(api.Frame{ID: 100})}
	wantRound(t, l, nil, api.Outcome{Winner: 1, Bits: lengthOf(l[1].Frame) + 3, Sent: true, Errs: []api.Errno{ok, ok}, Got: []bool{true, false}})
}

// P4.1: nobody sends.
func TestRoundOfNobody(t *testing.T) {
	idle := func(n int) api.Outcome {
		return api.Outcome{Winner: -1, Bits: 11, Errs: make([]api.Errno, n), Got: make([]bool, n)}
	}
	bad := api.Frame{Len: 16}
	wantRound(t, nil, nil, idle(0))
	wantRound(t, []api.Sender{}, []api.Flip{}, idle(0))
	wantRound(t, []api.Sender{{}}, nil, idle(1))
	wantRound(t, []api.Sender{up}, flip(0, 3), idle(1))
	wantRound(t, []api.Sender{up, {Sends: true}, {Up: true, Frame: bad}}, flip(1, 0, 2, 50), idle(3))
	wantRound(t, make([]api.Sender, 127), flip(126, 0), idle(127))
}

// P4.1: one that is alone is not acknowledged.
func TestRoundAlone(t *testing.T) {
	f := api.Frame{ID: 5, Len: 1}
	length := lengthOf(f)
	unheard := api.Outcome{Winner: 1, Bits: length - 8 + 20, Errs: []api.Errno{ok, api.ErrAck, ok}, Got: make([]bool, 3)}
	l := []api.Sender{{Sends: true, Frame: api.Frame{ID: 1}}, sends(f), {}}
	wantRound(t, l, nil, unheard)
	wantRound(t, l, flip(0, 3, 2, length-1), unheard)
	// It gives up ahead of its last bit.
	wantRound(t, l, flip(1, length-1), unheard)
	wantRound(t, l, flip(1, length), unheard)
	unheard.Errs[1], unheard.Bits = stuff, 24
	wantRound(t, l, flip(1, 0), unheard)
	unheard.Errs[1], unheard.Bits = fixed, length-2+24
	wantRound(t, l, flip(1, length-2), unheard)
}

// P4.1: at each bit of the winner's, of each node: who has which error, and how long it takes.
func TestRoundFlips(t *testing.T) {
	l, length := three()
	for node := range l {
		for bit := range length - 1 {
			want := api.Outcome{Winner: 1, Bits: bit + 24, Errs: []api.Errno{stuff, stuff, stuff}, Got: make([]bool, 3)}
			if bit > length-11 {
				want.Errs[node] = fixed
			}
			wantRound(t, l, flip(node, bit), want)
		}
	}
}

// P4.1: the winner's last bit, and what is beyond it.
func TestRoundLastBit(t *testing.T) {
	l, length := three()
	last := length - 1
	fine := api.Outcome{Winner: 1, Bits: length + 3, Sent: true, Errs: []api.Errno{ok, ok, ok}, Got: []bool{true, false, true}}
	twice := api.Outcome{Winner: 1, Bits: length + 20, Errs: []api.Errno{ok, fixed, ok}, Got: []bool{true, false, true}}
	wantRound(t, l, flip(0, last), fine)
	wantRound(t, l, flip(2, last, 0, last), fine)
	wantRound(t, l, flip(1, length), fine)
	wantRound(t, l, flip(0, math.MaxInt, 1, math.MaxInt, 1, length+1), fine)
	wantRound(t, l, flip(1, last), twice)
	wantRound(t, l, flip(2, last, 1, last, 0, last, 1, last), twice)
	wantRound(t, l, flip(1, length, 1, last), twice)
	// Together with one that counts it does nothing.
	spoilt := api.Outcome{Winner: 1, Bits: last - 1 + 24, Errs: []api.Errno{stuff, stuff, fixed}, Got: make([]bool, 3)}
	wantRound(t, l, flip(1, last, 2, last-1), spoilt)
	wantRound(t, l, flip(2, last-1, 1, last), spoilt)
}

// P4.1: the first flip alone tells the errors: the least Bit, of these the least node.
func TestRoundFirstFlip(t *testing.T) {
	l, length := three()
	at := length - 5
	spoilt := func(bit int, errs ...api.Errno) api.Outcome {
		return api.Outcome{Winner: 1, Bits: bit + 24, Errs: errs, Got: make([]bool, 3)}
	}
	wantRound(t, l, flip(2, at, 1, at), spoilt(at, stuff, fixed, stuff))
	wantRound(t, l, flip(1, at, 2, at), spoilt(at, stuff, fixed, stuff))
	wantRound(t, l, flip(2, at, 0, at, 1, at), spoilt(at, fixed, stuff, stuff))
	wantRound(t, l, flip(0, at, 2, at-1), spoilt(at-1, stuff, stuff, fixed))
	wantRound(t, l, flip(2, at-1, 0, at), spoilt(at-1, stuff, stuff, fixed))
	wantRound(t, l, flip(0, at, 2, 4, 1, at), spoilt(4, stuff, stuff, stuff))
	wantRound(t, l, flip(2, at, 2, at), spoilt(at, stuff, stuff, fixed))
	// One that takes no part flips nothing, and has no error.
	l[0].Up = false
	wantRound(t, l, flip(0, 3, 2, at, 0, at), spoilt(at, ok, stuff, fixed))
	wantRound(t, l, flip(0, 3), api.Outcome{Winner: 1, Bits: length + 3, Sent: true, Errs: make([]api.Errno, 3), Got: []bool{false, false, true}})
}

// P4.1: what is refused, the first error first.
func TestRoundWrong(t *testing.T) {
	l, _ := three()
	many := make([]api.Sender, 128)
	wantNoRound(t, many, nil, api.ErrLong)
	wantNoRound(t, many, flip(-1, -1), api.ErrLong)
	flips := make([]api.Flip, api.MaxBits+1)
	wantNoRound(t, l, flips, api.ErrLong)
	wantNoRound(t, nil, flips, api.ErrLong)
	flips[api.MaxBits].Node = 3
	wantNoRound(t, l, flips, api.ErrLong)
	wantNoRound(t, l, flips[1:], api.ErrArg)

	for _, f := range [][]api.Flip{flip(-1, 0), flip(3, 0), flip(0, -1), flip(math.MaxInt, 0), flip(math.MinInt, 0), flip(1, math.MinInt), flip(0, 5, 1, 6, 3, 7)} {
		wantNoRound(t, l, f, api.ErrArg)
		wantNoRound(t, make([]api.Sender, 3), f, api.ErrArg)
		wantNoRound(t, []api.Sender{up, sends(api.Frame{}), sends(api.Frame{})}, f, api.ErrArg)
	}
	wantNoRound(t, nil, flip(0, 0), api.ErrArg)

	bad := api.Frame{ID: 1 << 11}
	wantNoRound(t, []api.Sender{sends(bad), up}, nil, api.ErrArg)
	wantNoRound(t, []api.Sender{sends(api.Frame{}), sends(api.Frame{ID: 3, Len: -1})}, nil, api.ErrArg)
	twins := []api.Sender{sends(api.Frame{ID: 4, Len: 1}), sends(api.Frame{ID: 3}), sends(api.Frame{ID: 4})}
	wantNoRound(t, twins, nil, api.ErrThere)
	wantNoRound(t, append(twins, sends(bad)), nil, api.ErrArg)
	// Only those that take part and send are looked at.
	twins[0].Up = false
	if o, err := Round(twins, nil); err != api.OK || o.Winner != 1 {
		t.Error(o, err)
	}
	twins[0].Up, twins[0].Sends = true, false
	if o, err := Round(append(twins, api.Sender{Up: true, Frame: bad}), nil); err != api.OK || o.Winner != 1 {
		t.Error(o, err)
	}
}

// P4.1: 127 nodes and MaxBits flips are allowed.
func TestRoundMost(t *testing.T) {
	l := slices.Repeat([]api.Sender{up}, 127)
	l[126] = sends(api.Frame{ID: 0x7ff, Len: 8})
	length := lengthOf(l[126].Frame)
	flips := slices.Repeat(flip(126, length), api.MaxBits)
	o, err := Round(l, flips)
	if err != api.OK || o.Winner != 126 || !o.Sent || o.Bits != length+3 || len(o.Got) != 127 || len(o.Errs) != 127 {
		t.Error(o, err)
	}
	flips[api.MaxBits-1] = api.Flip{Node: 125, Bit: length - 2}
	o, err = Round(l, flips)
	if err != api.OK || o.Sent || o.Errs[125] != fixed || o.Errs[126] != stuff || o.Errs[0] != stuff || o.Bits != length+22 {
		t.Error(o, err)
	}
}

// P4.1: rounds of a dice, held against a second telling; what is handed in stays as it is, and is kept by nobody.
func TestRoundMany(t *testing.T) {
	d := dice(4)
	for range 30000 {
		l := d.senders(1 + d.below(6))
		length := 60
		if w := winnerOf(l); w >= 0 {
			length = lengthOf(l[w].Frame)
		}
		flips := d.flips(len(l), length)
		l0, flips0 := slices.Clone(l), slices.Clone(flips)
		want, _ := told(l, flips)
		wantRound(t, l, flips, want)
		if !slices.Equal(l, l0) || !slices.Equal(flips, flips0) {
			t.Fatal("an argument was changed")
		}
		if t.Failed() {
			return
		}
	}
}

// P4.1: an answer's lists are its own.
func TestRoundMemory(t *testing.T) {
	l, _ := three()
	a, _ := Round(l, nil)
	b, _ := Round(l, nil)
	for i := range a.Got {
		a.Got[i], a.Errs[i] = !a.Got[i], api.ErrForm
	}
	c, _ := Round(l, nil)
	if !reflect.DeepEqual(b, c) {
		t.Error(b, c)
	}
}

// P4.5: without flips at most one frame is sent, the first one, and all others that take part get it.
func TestOneWire(t *testing.T) {
	d := dice(45)
	for range 5000 {
		l := d.senders(1 + d.below(9))
		o, err := Round(l, nil)
		var frames []api.Frame
		parts := 0
		for _, n := range l {
			if n.Up {
				parts++
			}
			if n.Up && n.Sends {
				frames = append(frames, n.Frame)
			}
		}
		if err != api.OK || o.Sent != (len(frames) > 0 && parts > 1) {
			t.Fatal(l, o, err)
		}
		if !o.Sent {
			if slices.Contains(o.Got, true) {
				t.Fatal(l, o)
			}
			continue
		}
		if first, _ := frame.First(frames); l[o.Winner].Frame != frames[first] {
			t.Fatal(l, o)
		}
		for i, n := range l {
			if o.Got[i] != (n.Up && i != o.Winner) {
				t.Fatal(l, o)
			}
		}
	}
}

// P4.6: whatever is flipped but the winner's last bit: all or nobody.
func TestAllOrNobody(t *testing.T) {
	d := dice(46)
	whole, spoilt := 0, 0
	for range 20000 {
		l := d.senders(2 + d.below(6))
		w := winnerOf(l)
		if w < 0 {
			continue
		}
		length := lengthOf(l[w].Frame)
		flips := slices.DeleteFunc(d.flips(len(l), length), func(f api.Flip) bool { return f == api.Flip{Node: w, Bit: length - 1} })
		o, err := Round(l, flips)
		if err != api.OK || o.Winner != w {
			t.Fatal(l, flips, o, err)
		}
		for i, n := range l {
			if o.Got[i] != (o.Sent && n.Up && i != w) {
				t.Fatal(l, flips, o)
			}
		}
		if o.Sent {
			whole++
		} else {
			spoilt++
		}
	}
	if whole < 1000 || spoilt < 1000 {
		t.Error("too few of a kind", whole, spoilt)
	}
}

// P4.9: who wins, who Got the frame, and how long it takes, does not hang on the order of the nodes, nor of the flips.
func TestWhicheverOrder(t *testing.T) {
	d := dice(49)
	for range 20000 {
		l := d.senders(1 + d.below(7))
		length := 60
		if w := winnerOf(l); w >= 0 {
			length = lengthOf(l[w].Frame)
		}
		flips := d.flips(len(l), length)
		to := make([]int, len(l)) // node i goes to place to[i]
		for i := range to {
			j := d.below(i + 1)
			to[i], to[j] = to[j], i
		}
		moved := make([]api.Sender, len(l))
		for i, p := range to {
			moved[p] = l[i]
		}
		var movedFlips []api.Flip
		for _, f := range flips {
			movedFlips = slices.Insert(movedFlips, d.below(len(movedFlips)+1), api.Flip{Node: to[f.Node], Bit: f.Bit})
		}
		o, err := Round(l, flips)
		p, err2 := Round(moved, movedFlips)
		if err != api.OK || err2 != api.OK || o.Bits != p.Bits || o.Sent != p.Sent || o.Winner < 0 != (p.Winner < 0) || o.Winner >= 0 && to[o.Winner] != p.Winner {
			t.Fatal(l, flips, o, p)
		}
		for i := range l {
			if o.Got[i] != p.Got[to[i]] {
				t.Fatal(l, flips, o, p)
			}
		}
	}
}

// P4.8: a node that takes no part changes nothing in a round, whatever it would send or flip.
func TestApartInARound(t *testing.T) {
	d := dice(48)
	for range 10000 {
		l := d.senders(1 + d.below(6))
		length := 60
		if w := winnerOf(l); w >= 0 {
			length = lengthOf(l[w].Frame)
		}
		flips := d.flips(len(l), length)
		at := d.below(len(l) + 1)
		wider := slices.Insert(slices.Clone(l), at, api.Sender{Sends: true, Frame: []api.Frame{{}, {Len: 99}}[d.below(2)]})
		widerFlips := flip(at, 0, at, length-1, at, length-3)
		for _, f := range flips {
			if f.Node >= at {
				f.Node++
			}
			widerFlips = append(widerFlips, f)
		}
		o, err := Round(l, flips)
		p, err2 := Round(wider, widerFlips)
		if err != err2 || p.Got[at] || p.Errs[at] != api.OK {
			t.Fatal(l, flips, o, p)
		}
		if p.Winner > at {
			p.Winner--
		}
		p.Got, p.Errs = slices.Delete(p.Got, at, at+1), slices.Delete(p.Errs, at, at+1)
		if !reflect.DeepEqual(o, p) {
			t.Fatal(l, flips, o, p)
		}
	}
}

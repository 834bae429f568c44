package lss

import "tramway/api"

// The modes.
const (
	waiting     = 0
	configuring = 1
)

// none stands for no number in a frame; anew, instead of a bit, for a scan that begins.
const (
	none = 255
	anew = 128
)

// maxRate is the last one of the rates; noRate is among them, and is none.
const (
	maxRate = 8
	noRate  = 5
)

// Slave is a node that may be given a number.
type Slave struct {
	address  [parts]uint32
	mode     int
	id, rate pair
	stored   *kept // nil: nothing is
	fails    bool  // storing does
	chosen   [parts]uint32
	picked   int  // how many parts of chosen came, one behind the other
	looks    byte // the part that it looks for in a scan
}

// pair is what is to be used, and what is.
type pair struct{ pending, used int }

// kept is what is there without power.
type kept struct{ id, rate int }

// New is a slave of an address that waits, with a number (0: none).
func New(address [4]uint32, id int) (*Slave, api.Errno) {
	if id < 0 || id > api.MaxNodes {
		return nil, api.ErrArg
	}
	return &Slave{address: address, id: pair{id, id}}, api.OK
}

// Mode is its mode.
func (s *Slave) Mode() int { return s.mode }

// ID is its number: the pending one, and the one that it uses.
func (s *Slave) ID() (int, int) { return s.id.pending, s.id.used }

// Rate is its rate: the pending one, and the one that it uses.
func (s *Slave) Rate() (int, int) { return s.rate.pending, s.rate.used }

// Store tells whether storing fails from now on.
func (s *Slave) Store(fails bool) { s.fails = fails }

// Stored is the number and the rate that it stored, if it did.
func (s *Slave) Stored() (int, int, bool) {
	if s.stored == nil {
		return 0, 0, false
	}
	return s.stored.id, s.stored.rate, true
}

// Restart lets it begin anew, with what it stored, or with its pending number.
func (s *Slave) Restart() {
	s.mode, s.picked, s.looks = waiting, 0, 0
	if s.stored == nil {
		s.id.used = s.id.pending
		return
	}
	s.id = pair{s.stored.id, s.stored.id}
	s.rate = pair{s.stored.rate, s.stored.rate}
}

// Take takes a command: the answer, if there is one.
func (s *Slave) Take(q [8]byte) ([8]byte, bool) {
	switch {
	case q[0] == setMode:
		s.setMode(q[1])
		return [8]byte{}, false
	case q[0] == askBare:
		return told(sayBare, s.isBare())
	case s.mode == configuring:
		return s.configure(q)
	}
	return s.wait(q)
}

// told is an answer, if there is one.
func told(answer byte, is bool) ([8]byte, bool) {
	if !is {
		return [8]byte{}, false
	}
	return [8]byte{answer}, true
}

// isBare: whether it has no number, and is to have none.
func (s *Slave) isBare() bool { return s.id == pair{} }

// setMode: it is to wait, or to be configured.
func (s *Slave) setMode(mode byte) {
	switch mode {
	case configuring:
		s.mode = configuring
	case waiting:
		s.mode = waiting
		if s.id.used == 0 {
			s.id.used = s.id.pending
		}
	}
}

// wait takes a command while it waits.
func (s *Slave) wait(q [8]byte) ([8]byte, bool) {
	switch command := q[0]; {
	case command >= selectPart && command < selectPart+parts:
		return told(saySelected, s.pick(int(command-selectPart), number(q)))
	case command == scanPart:
		return told(sayHere, s.isBare() && s.scan(q))
	}
	return [8]byte{}, false
}

// pick takes a part of an address, one behind the other: whether its own one is whole with that. The parts are looked at together, behind the last one: once there is another's among them, only a new beginning helps, seen at once or not.
func (s *Slave) pick(part int, n uint32) bool {
	if part != 0 && part != s.picked {
		s.picked = 0
		return false
	}
	s.chosen[part] = n
	s.picked = (part + 1) % parts
	if s.picked != 0 || s.chosen != s.address {
		return false
	}
	s.mode = configuring
	return true
}

// scan takes a question for a part of an address: whether it answers. Behind the last part it is found.
func (s *Slave) scan(q [8]byte) bool {
	bit, part, next := q[5], q[6], q[7]
	if bit == anew {
		s.looks = 0
		return true
	}
	if bit > 31 || part != s.looks || next >= parts || (s.address[part]^number(q))>>bit != 0 {
		return false
	}
	if bit > 0 {
		return true
	}
	s.looks = next
	if next < part {
		s.mode = configuring
		s.looks = 0
	}
	return true
}

// configure takes a command while it is configured.
func (s *Slave) configure(q [8]byte) ([8]byte, bool) {
	switch command := q[0]; command {
	case setID:
		return Order(command, s.setID(int(q[1]))), true
	case setRate:
		return Order(command, s.setRate(q[1], int(q[2]))), true
	case useRate:
		s.rate.used = s.rate.pending
	case store:
		return Order(command, s.store()), true
	case readPart, readPart + 1, readPart + 2, readPart + 3:
		return Order(command, s.address[command-readPart]), true
	case readID:
		return Order(command, s.tellID()), true
	}
	return [8]byte{}, false
}

// setID: a number is pending: 0, or why not.
func (s *Slave) setID(id int) uint32 {
	if id == none {
		id = 0
	} else if id < 1 || id > api.MaxNodes {
		return 1
	}
	s.id.pending = id
	return 0
}

// setRate: a rate of a table is pending: 0, or why not.
func (s *Slave) setRate(table byte, rate int) uint32 {
	if table != 0 || rate > maxRate || rate == noRate {
		return 1
	}
	s.rate.pending = rate
	return 0
}

// store: what is pending is kept: 0, or why not.
func (s *Slave) store() uint32 {
	if s.fails {
		return 2
	}
	s.stored = &kept{s.id.pending, s.rate.pending}
	return 0
}

// tellID is the number that it uses, as a frame tells it.
func (s *Slave) tellID() uint32 {
	if s.id.used == 0 {
		return none
	}
	return uint32(s.id.used)
}

package pdo

import "tramway/api"

// form is an api.Form under names of its own: embedded, an api.Form would let callers change a sender's type, and its Event has the name of a method.
type form struct {
	typ     int
	inhibit uint64
	each    uint64 // its Event
}

// state is all that a sender has since it was started, so that it begins anew by being written over.
type state struct {
	on    bool
	waits bool
	quiet uint64 // ticks for which it is quiet yet
	since uint64 // ticks, of a type that goes by SYNCs those, since it was sent or started
}

// Sender tells when an object is sent.
type Sender struct {
	form
	state
}

// NewSender is a sender of a form; it is not started.
func NewSender(f api.Form) (*Sender, api.Errno) {
	if err := Check(f); err != api.OK {
		return nil, err
	}
	return &Sender{form: form{typ: f.Type, inhibit: f.Inhibit, each: f.Event}}, api.OK
}

// Start lets it go from its beginning on, if it does not go, or stops it.
func (s *Sender) Start(on bool) {
	if on != s.on {
		s.state = state{on: on}
	}
}

// Event tells whether it is sent now that something happened; else that waits.
func (s *Sender) Event() bool {
	if !s.on {
		return false
	}
	if !isAtOnce(s.typ) || s.quiet > 0 {
		s.waits = true
		return false
	}
	return s.send()
}

// Sync tells whether it is sent with a SYNC that came. The SYNCs are counted from its start on, whatever counters they have.
func (s *Sender) Sync(counter int) bool {
	if !s.on || isAtOnce(s.typ) {
		return false
	}
	if s.typ == 0 {
		waited := s.waits
		s.waits = false
		return waited
	}
	s.since = (s.since + 1) % uint64(s.typ)
	return s.since == 0
}

// Tick tells whether it is sent at a tick that goes by.
func (s *Sender) Tick() bool {
	if !s.on || !isAtOnce(s.typ) {
		return false
	}
	s.since++
	s.quiet -= min(s.quiet, 1)
	if s.quiet > 0 || !s.waits && !s.isDue() {
		return false
	}
	return s.send()
}

// isDue tells whether it is sent though nothing happened.
func (s *Sender) isDue() bool { return s.each > 0 && s.since >= s.each }

// send is what becomes of one that goes at once, whenever it is sent.
func (s *Sender) send() bool {
	s.state = state{on: true, quiet: s.inhibit}
	return true
}

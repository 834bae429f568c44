package pdo

import (
	"bytes"

	"tramway/api"
)

// came is all that a taker has since it was started. Also an object without bytes waits, so that last alone does not tell it.
type came struct {
	on, waits bool
	last      []byte
}

// Taker tells when an object that came counts.
type Taker struct {
	atOnce bool
	came
}

// NewTaker is a taker of objects of a type; it is not started.
func NewTaker(typ int) (*Taker, api.Errno) {
	if !mayType(typ) {
		return nil, api.ErrArg
	}
	return &Taker{atOnce: isAtOnce(typ)}, api.OK
}

// Start lets it go from its beginning on, if it does not go, or stops it.
func (t *Taker) Start(on bool) {
	if on != t.on {
		t.came = came{on: on}
	}
}

// Take takes an object that came: it, if it counts at once; else it waits for a SYNC, or for one that comes in its place.
func (t *Taker) Take(b []byte) ([]byte, bool) {
	if !t.on {
		return nil, false
	}
	b = bytes.Clone(b)
	if t.atOnce {
		return b, true
	}
	t.waits, t.last = true, b
	return nil, false
}

// Sync is the object that counts from a SYNC on that came; false: none does. It is given away, so that it is nobody else's.
func (t *Taker) Sync() ([]byte, bool) {
	b, waited := t.last, t.waits
	t.waits, t.last = false, nil
	return b, waited
}

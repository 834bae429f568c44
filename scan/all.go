package scan

import (
	"slices"

	"tramway/api"
	"tramway/lss"
)

// The commands by which one that was found is given a number, and waits again.
const (
	setMode = 4
	setID   = 17
	waiting = 0
)

// All finds slaves without numbers, one by one, and gives them numbers: their addresses.
func All(l []*lss.Slave, ids []int) ([][4]uint32, api.Errno) {
	if slices.Contains(l, nil) || !areNumbers(ids) {
		return nil, api.ErrArg
	}
	if len(l) > api.MaxNodes {
		return nil, api.ErrLong
	}
	var told [][4]uint32
	for _, id := range ids {
		address, is := find(l)
		if !is {
			return told, api.OK
		}
		hand(l, lss.Order(setID, uint32(id)))
		hand(l, lss.Order(setMode, waiting))
		told = append(told, address)
	}
	if q, _ := New().Ask(); hand(l, q) {
		return told, api.ErrNone
	}
	return told, api.OK
}

// areNumbers: whether all are numbers of nodes, none of them twice.
func areNumbers(ids []int) bool {
	seen := map[int]struct{}{}
	for _, id := range ids {
		if _, is := seen[id]; is || id < 1 || id > api.MaxNodes {
			return false
		}
		seen[id] = struct{}{}
	}
	return true
}

// find is the address that a new scan of slaves finds, if it finds one.
func find(l []*lss.Slave) ([4]uint32, bool) {
	s := New()
	for q, is := s.Ask(); is; q, is = s.Ask() {
		s.Answer(hand(l, q))
	}
	return s.Found()
}

// hand hands a frame to all slaves: whether any of them answers. Those behind one that answers take it, too.
func hand(l []*lss.Slave, q [8]byte) bool {
	answered := false
	for _, s := range l {
		if _, is := s.Take(q); is {
			answered = true
		}
	}
	return answered
}

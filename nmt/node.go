package nmt

import "tramway/api"

// Node is a node's state.
type Node struct {
	id    int
	next  int // its number from when it begins anew
	state int
	boots int
	talks int
}

// New is a node of a number (0: it has none yet) that begins.
func New(id int) (*Node, api.Errno) {
	if !isNumber(id) {
		return nil, api.ErrArg
	}
	return &Node{id: id, next: id, state: api.Boot}, api.OK
}

// State is the state that it is in.
func (n *Node) State() int { return n.state }

// ID is its number.
func (n *Node) ID() int { return n.id }

// Boots is how often it was told to begin anew: all of it, and to talk.
func (n *Node) Boots() (int, int) { return n.boots, n.talks }

// SetID gives it a number, which it has from when it begins anew, or now, if it begins now.
func (n *Node) SetID(id int) api.Errno {
	if !isNumber(id) {
		return api.ErrArg
	}
	n.next = id
	if n.state == api.Boot {
		n.id = id
	}
	return api.OK
}

// Step goes on from the beginning, if it is there and has a number: the byte by which it tells so.
func (n *Node) Step() ([]byte, bool) {
	if n.state != api.Boot || n.id == 0 {
		return nil, false
	}
	n.state = api.Ready
	return []byte{api.Boot}, true
}

// Take takes the bytes of a command, and answers the command; 0: it is none, or not for this node.
func (n *Node) Take(b []byte) int {
	if len(b) != 2 || !n.hears(int(b[1])) {
		return 0
	}
	command := int(b[0])
	state, is := target(command)
	if !is {
		return 0
	}
	n.state = state
	switch command {
	case api.ToBoot:
		n.boots++
		n.id = n.next
	case api.ToTalk:
		n.talks++
		n.id = n.next
	}
	return command
}

// hears: whether a command to such a number is for it. A node without a number never gets beyond Boot, so that it hears nothing.
func (n *Node) hears(to int) bool {
	return n.state != api.Boot && (to == 0 || to == n.id)
}

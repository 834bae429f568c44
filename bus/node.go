package bus

import (
	"tramway/api"
	"tramway/fault"
)

// node is a controller on the wire.
type node struct {
	power bool
	unit  *fault.Unit
	frame api.Frame // to be sent, if it waits
	waits bool
	got   []api.Frame // and not fetched yet
}

func (n *node) off() bool { return n.unit.State() == api.Off }

func (n *node) takesPart() bool { return n.power && !n.off() }

// turn changes its power. Its unit stays the same one, as somebody may hold it.
func (n *node) turn(on bool) {
	n.unit.Reset()
	*n = node{power: on, unit: n.unit}
}

// drop forgets what it has to send.
func (n *node) drop() { n.frame, n.waits = api.Frame{}, false }

// take keeps a frame to be fetched, if there is room.
func (n *node) take(f api.Frame) {
	if len(n.got) < api.MaxBoxes {
		n.got = append(n.got, f)
	}
}

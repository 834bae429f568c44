package beat

import (
	"slices"

	"tramway/api"
)

// Watcher watches nodes.
type Watcher struct {
	nodes []watched // in the order in which they were handed in
}

// watched is a node that is watched.
type watched struct {
	api.Watch
	came  bool   // it came since it began last
	lost  bool   // it came, and beats no more
	state int    // of its last beat
	gone  uint64 // ticks since then
}

// NewWatcher is a watcher of nodes, none of which came yet.
func NewWatcher(l []api.Watch) (*Watcher, api.Errno) {
	w := new(Watcher)
	for _, x := range l {
		if x.Node < 1 || x.Node > api.MaxNodes || x.Ticks < 1 || x.Ticks > maxTicks {
			return nil, api.ErrArg
		}
		if w.place(x.Node) >= 0 {
			return nil, api.ErrThere
		}
		w.nodes = append(w.nodes, watched{Watch: x})
	}
	return w, api.OK
}

// place is where a node is among those that are watched; below 0: it is not.
func (w *Watcher) place(node int) int {
	return slices.IndexFunc(w.nodes, func(x watched) bool { return x.Node == node })
}

// Take: a beat of a node came: what it tells; false: it is no beat, or the node is not watched.
func (w *Watcher) Take(node int, b []byte) ([]api.News, bool) {
	i := w.place(node)
	if i < 0 || len(b) != 1 {
		return nil, false
	}
	state := int(b[0])
	if state == api.Boot {
		w.nodes[i] = watched{Watch: w.nodes[i].Watch}
		return []api.News{{Node: node, What: api.NewsBoot}}, true
	}
	if !isState(state) {
		return nil, false
	}
	return w.nodes[i].beat(state), true
}

// beat: it beats in a state: what that tells.
func (x *watched) beat(state int) []api.News {
	there, before := x.isThere(), x.state
	*x = watched{Watch: x.Watch, came: true, state: state}
	switch {
	case !there:
		return []api.News{{Node: x.Node, What: api.NewsFrom, State: state}}
	case before != state:
		return []api.News{{Node: x.Node, What: api.NewsTurn, State: state}}
	}
	return nil
}

// isThere: whether it came, and beats still.
func (x *watched) isThere() bool { return x.came && !x.lost }

// Tick: a tick goes by: the nodes that are lost with it.
func (w *Watcher) Tick() []api.News {
	var news []api.News
	for i := range w.nodes {
		x := &w.nodes[i]
		if !x.isThere() {
			continue
		}
		x.gone++
		if x.gone == x.Ticks {
			x.lost = true
			news = append(news, api.News{Node: x.Node, What: api.NewsLost, State: x.state})
		}
	}
	return news
}

// State is a node's state, if it is there.
func (w *Watcher) State(node int) (int, bool) {
	i := w.place(node)
	if i < 0 || !w.nodes[i].isThere() {
		return 0, false
	}
	return w.nodes[i].state, true
}

// Lost are the nodes that are lost, by their numbers.
func (w *Watcher) Lost() []int {
	var lost []int
	for _, x := range w.nodes {
		if x.lost {
			lost = append(lost, x.Node)
		}
	}
	slices.Sort(lost)
	return lost
}

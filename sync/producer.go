package sync

import "tramway/api"

// Producer tells a SYNC behind each period, while it is started.
type Producer struct {
	period   uint64
	overflow int
	left     uint64 // ticks up to the next SYNC, at least 1; 0: it is not started
	last     int    // the counter that was told last, 0 ahead of the first
}

// NewProducer is a producer of a SYNC each so many ticks, whose counters go up to overflow (0: it has none).
func NewProducer(period uint64, overflow int) (*Producer, api.Errno) {
	if period < 1 || period > mostPeriod || !mayOverflow(overflow) {
		return nil, api.ErrArg
	}
	return &Producer{period: period, overflow: overflow}, api.OK
}

// Start lets it go from its beginning on, if it does not go, or stops it.
func (p *Producer) Start(on bool) {
	switch {
	case !on:
		p.left = 0
	case p.left == 0:
		p.left, p.last = p.period, 0
	}
}

// Tick lets ticks go by: the counters of the SYNCs that are told then.
func (p *Producer) Tick(n uint64) []int {
	if p.left == 0 {
		return nil
	}
	var told []int
	n = min(n, mostTicks)
	for n >= p.left {
		n -= p.left
		p.left, p.last = p.period, behind(p.last, p.overflow)
		told = append(told, p.last)
	}
	p.left -= n
	return told
}

// Next is in how many ticks the next SYNC is told; false: none is.
func (p *Producer) Next() (uint64, bool) { return p.left, p.left > 0 }

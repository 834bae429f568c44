package sync

import (
	"math"

	"tramway/api"
)

// Consumer counts the SYNCs that come, and those that are out of turn.
type Consumer struct {
	overflow     int
	window       uint64
	next         int    // the counter that is in turn
	since        uint64 // ticks behind the last SYNC
	cycle, wrong uint64
}

// NewConsumer is a consumer of SYNCs whose counters go up to overflow (0: they have none), with a window of so many ticks (0: it stays open).
func NewConsumer(overflow int, window uint64) (*Consumer, api.Errno) {
	if !mayOverflow(overflow) || window > mostWindow {
		return nil, api.ErrArg
	}
	return &Consumer{overflow: overflow, window: window}, api.OK
}

// Take takes a SYNC that came: also one that is out of turn (ErrState) counts, and those behind it are held against it.
func (c *Consumer) Take(counter int) api.Errno {
	if !within(counter, first(c.overflow), c.overflow) {
		return api.ErrForm
	}
	inTurn := c.cycle == 0 || counter == c.next
	c.cycle++
	c.since, c.next = 0, behind(counter, c.overflow)
	if inTurn {
		return api.OK
	}
	c.wrong++
	return api.ErrState
}

// Tick lets ticks go by.
func (c *Consumer) Tick(n uint64) { c.since += min(n, math.MaxUint64-c.since) }

// Open tells whether the window behind the last SYNC is open.
func (c *Consumer) Open() bool { return c.cycle > 0 && (c.window == 0 || c.since < c.window) }

// Cycle is how many SYNCs were taken.
func (c *Consumer) Cycle() uint64 { return c.cycle }

// Wrong is how many of them were out of turn.
func (c *Consumer) Wrong() uint64 { return c.wrong }

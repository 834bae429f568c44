package nvm

import "tramway/api"

// Room is how many bytes have room.
func Room(c *Chip) int {
	if c == nil {
		return 0
	}
	return (halfPages(c) - 1) * pageLen
}

// Save keeps bytes. What was kept stays whole in the other half till the last Write, which alone makes the new ones count.
func Save(c *Chip, b []byte) api.Errno {
	switch {
	case c == nil:
		return api.ErrArg
	case len(b) > Room(c):
		return api.ErrLong
	case c.Dead():
		return api.ErrState
	}
	l := halvesOf(c)
	old := latest(l)
	into := l[1-old].first
	return written(clearHead(c, into) && writeBytes(c, into+1, b) && c.Write(into, headOf(next(l[old].counter), b)))
}

// Load is what is kept.
func Load(c *Chip) ([]byte, bool) {
	if c == nil {
		return nil, false
	}
	l := halvesOf(c)
	h := l[latest(l)]
	return h.kept, h.counter != 0
}

// Erase forgets what is kept.
func Erase(c *Chip) api.Errno {
	switch {
	case c == nil:
		return api.ErrArg
	case c.Dead():
		return api.ErrState
	}
	return written(clearHead(c, 0) && clearHead(c, halfPages(c)))
}

// clearHead makes a half hold nothing.
func clearHead(c *Chip, first int) bool { return c.Write(first, [pageLen]byte{}) }

// written is the error of Writes that were all true, or not: a chip refuses one of its own pages just if its power was cut.
func written(all bool) api.Errno {
	if !all {
		return api.ErrState
	}
	return api.OK
}

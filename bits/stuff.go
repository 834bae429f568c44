package bits

import (
	"strings"

	"tramway/api"
)

// fullRow is how many bits of one level may follow each other on the wire.
const fullRow = 5

// row is the run of bits of one level that was read last.
type row struct {
	level rune
	count int
}

// with is the row once a further bit was read.
func (r row) with(level rune) row {
	if level != r.level {
		return row{level, 1}
	}
	return row{level, r.count + 1}
}

// Stuff puts a bit of the other level in behind each five of one level.
func Stuff(s string) (string, api.Errno) {
	if err := look(s); err != api.OK {
		return "", err
	}
	var text strings.Builder
	var last row
	for _, level := range s {
		text.WriteRune(level)
		last = last.with(level)
		if last.count == fullRow {
			put := other(level)
			text.WriteRune(put)
			last = last.with(put)
		}
	}
	return text.String(), api.OK
}

// Unstuff leaves out what Stuff put in, and tells how far it read.
func Unstuff(s string) (string, int, api.Errno) {
	if err := look(s); err != api.OK {
		return "", 0, err
	}
	var text strings.Builder
	var last row
	for place, level := range s {
		full := last.count == fullRow
		if full && level == last.level {
			return "", place, api.ErrStuff
		}
		if !full {
			text.WriteRune(level)
		}
		last = last.with(level)
	}
	if last.count == fullRow {
		return "", len(s), api.ErrShort
	}
	return text.String(), len(s), api.OK
}

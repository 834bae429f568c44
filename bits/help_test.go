package bits

import (
	"strings"
	"testing"

	"tramway/api"
)

// dice is a source of numbers that are the same at each run.
type dice uint64

func (d *dice) next() uint64 {
	*d ^= *d << 13
	*d ^= *d >> 7
	*d ^= *d << 17
	return uint64(*d)
}

// below is a number from 0 to n, less 1.
func (d *dice) below(n int) int { return int(d.next() % uint64(n)) }

// text is a text of n bits; long rows of one level are frequent in it.
func (d *dice) text(n int) string {
	b := make([]byte, n)
	level := byte('0')
	for i := range b {
		if d.below(4) == 0 {
			level ^= 1
		}
		b[i] = level
	}
	return string(b)
}

// allTexts are all texts of at most n bits.
func allTexts(n int) []string {
	l := []string{""}
	for i := 0; i < len(l); i++ {
		if len(l[i]) < n {
			l = append(l, l[i]+"0", l[i]+"1")
		}
	}
	return l
}

// wrongTexts are texts that are not bits, and their errors.
var wrongTexts = []struct {
	name, s string
	err     api.Errno
}{
	{"another byte at the end", "012", api.ErrForm},
	{"another byte at the beginning", "x01", api.ErrForm},
	{"the byte below 0", "/", api.ErrForm},
	{"a blank", "0 1", api.ErrForm},
	{"a byte 0", "\x00", api.ErrForm},
	{"bytes 0 and 1 as numbers", "\x00\x01", api.ErrForm},
	{"a byte of no rune", "01\xff", api.ErrForm},
	{"a digit written too long", "\xc0\xb0", api.ErrForm},
	{"a digit of another script", "１", api.ErrForm},
	{"as many as there may be, the last another byte", strings.Repeat("0", api.MaxBits-1) + "2", api.ErrForm},
	{"one bit too many", strings.Repeat("0", api.MaxBits+1), api.ErrLong},
	{"one byte too many, and another byte", "2" + strings.Repeat("0", api.MaxBits), api.ErrLong},
	{"far too many other bytes", strings.Repeat("x", 3*api.MaxBits), api.ErrLong},
	{"few runes, too many bytes", strings.Repeat("１", api.MaxBits/2), api.ErrLong},
}

// xored is two texts of one length, xored bit by bit.
func xored(t *testing.T, s, u string) string {
	t.Helper()
	if len(s) != len(u) {
		t.Fatal("texts of different lengths")
	}
	b := []byte(s)
	for i := range b {
		b[i] = '0' + (s[i]^u[i])&1
	}
	return string(b)
}

func short(s string) string {
	if len(s) > 80 {
		return s[:80] + ".."
	}
	return s
}

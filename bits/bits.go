// Package bits is layer 1: bits as texts: see DOC.md and doc/01-bits.md.
package bits

import (
	"strings"

	"tramway/api"
)

const (
	dominant  = '0'
	recessive = '1'

	maxWidth = 64 // bits of the greatest number
)

// Valid tells whether a text is bits.
func Valid(s string) bool { return look(s) == api.OK }

// Number is a number as bits, the highest first.
func Number(n uint64, width int) (string, api.Errno) {
	if width < 0 || width > maxWidth || n>>width != 0 {
		return "", api.ErrArg
	}
	var text strings.Builder
	for i := range width {
		text.WriteRune(dominant + rune(n>>(width-1-i)&1))
	}
	return text.String(), api.OK
}

// Value is the number of bits, the highest first.
func Value(s string) (uint64, api.Errno) {
	if err := look(s); err != api.OK {
		return 0, err
	}
	if len(s) > maxWidth {
		return 0, api.ErrLong
	}
	var n uint64
	for _, level := range s {
		n = n<<1 | uint64(level-dominant)
	}
	return n, api.OK
}

// look tells a text's error. The length goes first: a text that is too long is ErrLong whatever its bytes are, and none of them is gone through.
func look(s string) api.Errno {
	if len(s) > api.MaxBits {
		return api.ErrLong
	}
	for _, level := range s {
		if level != dominant && level != recessive {
			return api.ErrForm
		}
	}
	return api.OK
}

// other is the level that the given one is not.
func other(level rune) rune {
	if level == dominant {
		return recessive
	}
	return dominant
}

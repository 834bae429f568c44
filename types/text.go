package types

import (
	"strconv"
	"strings"

	"tramway/api"
)

const (
	quote  = `"`
	quotes = quote + quote
	digits = "0123456789abcdef"

	base     = 10
	halfByte = 4 // bits of a hexadecimal digit

	longestText = 2*api.MaxBytes + 2 // a Text of nothing but quotes
)

// Print is a value's text.
func Print(v api.Value) (string, api.Errno) {
	if err := Check(v); err != api.OK {
		return "", err
	}
	switch kindOf(v.Type) {
	case unsigned:
		return strconv.FormatUint(v.N, base), api.OK
	case signed:
		return strconv.FormatInt(int64(v.N), base), api.OK
	case text:
		return quote + strings.ReplaceAll(v.B, quote, quotes) + quote, api.OK
	}
	return toHex(v.B), api.OK
}

// Parse is the value of a text.
func Parse(typ int, s string) (api.Value, api.Errno) {
	if kindOf(typ) == none {
		return api.Value{}, api.ErrArg
	}
	if len(s) > longestText {
		return api.Value{}, api.ErrLong
	}
	v, is := guess(typ, s)
	if !is {
		return api.Value{}, api.ErrForm
	}
	// A guess may stand for several texts (+1 and 01 are 1, too): Print says which one is its own.
	if told, err := Print(v); err != api.OK || told != s {
		return api.Value{}, api.ErrForm
	}
	return v, api.OK
}

// guess is the one value whose text may be s; Print need not tell s of it.
func guess(typ int, s string) (api.Value, bool) {
	v := api.Value{Type: typ}
	switch kindOf(typ) {
	case unsigned:
		n, err := strconv.ParseUint(s, base, wordBits)
		v.N = n
		return v, err == nil
	case signed:
		n, err := strconv.ParseInt(s, base, wordBits)
		v.N = uint64(n)
		return v, err == nil
	case text:
		b, is := unquoted(s)
		v.B = b
		return v, is
	}
	b, is := fromHex(s)
	v.B = b
	return v, is
}

func unquoted(s string) (string, bool) {
	s, ahead := strings.CutPrefix(s, quote)
	s, behind := strings.CutSuffix(s, quote)
	return strings.ReplaceAll(s, quotes, quote), ahead && behind
}

func toHex(s string) string {
	var told strings.Builder
	told.Grow(2 * len(s))
	for i := range len(s) {
		told.WriteByte(digits[s[i]>>halfByte])
		told.WriteByte(digits[s[i]&(1<<halfByte-1)])
	}
	return told.String()
}

// fromHex is the bytes of pairs of hexadecimal digits, small letters alone.
func fromHex(s string) (string, bool) {
	if len(s)%2 != 0 {
		return "", false
	}
	var b strings.Builder
	b.Grow(len(s) / 2)
	for i := 0; i < len(s); i += 2 {
		high, low := strings.IndexByte(digits, s[i]), strings.IndexByte(digits, s[i+1])
		if high < 0 || low < 0 {
			return "", false
		}
		b.WriteByte(byte(high<<halfByte | low))
	}
	return b.String(), true
}

package types

import "tramway/api"

// Encode is a value's bytes.
func Encode(v api.Value) ([]byte, api.Errno) {
	if err := Check(v); err != api.OK {
		return nil, err
	}
	size, is := Size(v.Type)
	if !is {
		return []byte(v.B), api.OK
	}
	b := make([]byte, size)
	for i := range size {
		b[i] = byte(v.N >> (i * byteBits))
	}
	return b, api.OK
}

// Decode is the value of bytes.
func Decode(typ int, b []byte) (api.Value, api.Errno) {
	if err := fits(typ, len(b)); err != api.OK {
		return api.Value{}, err
	}
	v := api.Value{Type: typ}
	switch kindOf(typ) {
	case unsigned:
		v.N = joined(b)
	case signed:
		v.N = extend(typ, joined(b))
	default:
		v.B = string(b)
	}
	if Check(v) != api.OK {
		return api.Value{}, api.ErrForm
	}
	return v, api.OK
}

// fits tells whether a value of a type may have so many bytes.
func fits(typ, n int) api.Errno {
	size, is := Size(typ)
	switch {
	case kindOf(typ) == none:
		return api.ErrArg
	case is && n < size:
		return api.ErrShort
	case is && n > size, n > api.MaxBytes:
		return api.ErrLong
	}
	return api.OK
}

// joined is the number of bytes, the lowest first.
func joined(b []byte) uint64 {
	var n uint64
	for i := range len(b) {
		n |= uint64(b[i]) << (i * byteBits)
	}
	return n
}

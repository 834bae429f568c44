package od

import (
	"tramway/api"
	"tramway/types"
)

const (
	byteBits = 8

	// Ahead of a saved value's bytes stand its Index and its Sub, and how many they are.
	placeLen = 3
	countLen = 4
	headLen  = placeLen + countLen
)

// Save is what is kept, as bytes.
func (d *Dict) Save() []byte {
	var b []byte
	for _, x := range d.items {
		if x.Access == api.ReadWrite {
			raw := x.bytes()
			b = append(b, byte(x.Index), byte(x.Index>>byteBits), x.Sub)
			for i := range countLen {
				b = append(b, byte(len(raw)>>(i*byteBits)))
			}
			b = append(b, raw...)
		}
	}
	return b
}

// saved is a value's bytes, and where it is.
type saved struct {
	index uint16
	sub   uint8
	raw   []byte
}

// Load takes what Save told. Nothing is laid down till all of it is read, so that bytes that are refused change nothing.
func (d *Dict) Load(b []byte) api.Errno {
	// Whether the bytes are a list at all is asked of them as a whole, ahead of what any of them says.
	l, is := cut(b)
	if !is {
		return api.ErrForm
	}
	values := map[place]api.Value{}
	for _, s := range l {
		x, code := d.find(s.index, s.sub)
		if code != api.Fine || x.Access != api.ReadWrite {
			return api.ErrNone
		}
		v, err := types.Decode(x.Default.Type, s.raw)
		if err != api.OK {
			return api.ErrForm
		}
		values[x.place()] = v
	}
	d.lay(values)
	return api.OK
}

// cut is bytes as saved values; and whether they are such, one behind the other by their places, and nothing else.
func cut(b []byte) ([]saved, bool) {
	var l []saved
	ahead := -1
	for len(b) > 0 {
		s, is := head(b)
		at := int(placeOf(s.index, s.sub))
		if !is || at <= ahead {
			return nil, false
		}
		l = append(l, s)
		ahead, b = at, b[headLen+len(s.raw):]
	}
	return l, true
}

// head is the first saved value of bytes, and whether it is whole.
func head(b []byte) (saved, bool) {
	if len(b) < headLen {
		return saved{}, false
	}
	var n uint64
	for i := range countLen {
		n |= uint64(b[placeLen+i]) << (i * byteBits)
	}
	rest := b[headLen:]
	if n > uint64(len(rest)) {
		return saved{}, false
	}
	return saved{uint16(b[0]) | uint16(b[1])<<byteBits, b[2], rest[:n]}, true
}

func (d *Dict) lay(values map[place]api.Value) {
	for _, x := range d.items {
		if v, is := values[x.place()]; is {
			x.value = v
		}
	}
}

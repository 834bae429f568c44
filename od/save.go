package od

import (
	"tramway/api"
	"tramway/types"
)

const (
	byteBits = 8

	// Ahead of a saved value's bytes stand its Index and its Sub, and how many they are.
	placeLen = 3
	countLen = 4
	headLen  = placeLen + countLen
)

// Save is what is kept, as bytes.
func (d *Dict) Save() []byte {
	var b []byte
	for _, x := range d.items {
		if x.Access == api.ReadWrite {
			raw := x.bytes()
			b = append(b, byte(x.Index), byte(x.Index>>byteBits), x.Sub)
			for i := range countLen {
				b = append(b, byte(len(raw)>>(i*byteBits)))
			}
			b = append(b, raw...)
		}
	}
	return b
}

// Load takes what Save told. Nothing is laid down till all of it is read, so that bytes that are refused change nothing.
func (d *Dict) Load(b []byte) api.Errno {
	values := map[place]api.Value{}
	ahead := -1
	for len(b) > 0 {
		index, sub, raw, is := head(b)
		at := placeOf(index, sub)
		if !is || int(at) <= ahead {
			return api.ErrForm
		}
		x, code := d.find(index, sub)
		if code != api.Fine || x.Access != api.ReadWrite {
			return api.ErrNone
		}
		v, err := types.Decode(x.Default.Type, raw)
		if err != api.OK {
			return api.ErrForm
		}
		values[at] = v
		ahead, b = int(at), b[headLen+len(raw):]
	}
	d.lay(values)
	return api.OK
}

// head is the first saved value of bytes: where it is, and its own bytes; and whether it is whole.
func head(b []byte) (uint16, uint8, []byte, bool) {
	if len(b) < headLen {
		return 0, 0, nil, false
	}
	var n uint64
	for i := range countLen {
		n |= uint64(b[placeLen+i]) << (i * byteBits)
	}
	index, sub, rest := uint16(b[0])|uint16(b[1])<<byteBits, b[2], b[headLen:]
	if n > uint64(len(rest)) {
		return 0, 0, nil, false
	}
	return index, sub, rest[:n], true
}

func (d *Dict) lay(values map[place]api.Value) {
	for _, x := range d.items {
		if v, is := values[x.place()]; is {
			x.value = v
		}
	}
}

package frame

import (
	"strings"

	"tramway/api"
	"tramway/bits"
)

// writer puts the parts of a frame together as bits.
type writer struct{ strings.Builder }

// number writes n, which Check found to fit.
func (w *writer) number(n uint32, width int) {
	text, _ := bits.Number(uint64(n), width)
	w.WriteString(text)
}

// mark writes a bit that is recessive, if set.
func (w *writer) mark(set bool) {
	if set {
		w.WriteByte(recessive)
		return
	}
	w.WriteByte(dominant)
}

// field writes a frame's arbitration field. A base frame's remote mark stands where an extended one has a bit that is always 1, so that of one ID's frames the base data frame wins.
func (w *writer) field(f api.Frame) {
	if !f.Extended {
		w.number(f.ID, highBits)
		w.mark(f.Remote)
		w.mark(false)
		return
	}
	w.number(f.ID>>lowBits, highBits)
	w.mark(true)
	w.mark(true)
	w.number(f.ID&(1<<lowBits-1), lowBits)
	w.mark(f.Remote)
}

// body writes a frame's body, not yet stuffed.
func (w *writer) body(f api.Frame) {
	w.mark(false)
	w.field(f)
	w.mark(false)
	if f.Extended {
		w.mark(false)
	}
	w.number(uint32(f.Len), lenBits)
	for _, b := range f.Data[:bytesOf(f)] {
		w.number(uint32(b), byteBits)
	}
	sum, _ := bits.CRC(w.String())
	w.number(uint32(sum), sumBits)
}

// Encode is a frame's bits.
func Encode(f api.Frame, ack bool) (string, api.Errno) {
	if err := Check(f); err != api.OK {
		return "", err
	}
	var body, whole writer
	body.body(f)
	stuffed, _ := bits.Stuff(body.String())
	whole.WriteString(stuffed)
	whole.mark(true)
	whole.mark(!ack)
	whole.WriteString(endOnes)
	return whole.String(), api.OK
}

// Field is a frame's arbitration field.
func Field(f api.Frame) (string, api.Errno) {
	if err := Check(f); err != api.OK {
		return "", err
	}
	var w writer
	w.field(f)
	return w.String(), api.OK
}

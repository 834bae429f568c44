package pdomap

import (
	"iter"

	"tramway/api"
)

// ends goes through slots, each with the bits of all up to it.
func ends(l []api.Slot) iter.Seq2[api.Slot, int] {
	return func(yield func(api.Slot, int) bool) {
		bits := 0
		for _, s := range l {
			bits += s.Bits
			if !yield(s, bits) {
				return
			}
		}
	}
}

// pieces goes through the slots of a mapping that can be, each with its place among bytes; such slots have whole bytes.
func pieces(l []api.Slot, b []byte) iter.Seq2[api.Slot, []byte] {
	return func(yield func(api.Slot, []byte) bool) {
		for s, end := range ends(l) {
			if !yield(s, b[(end-s.Bits)/byteBits:end/byteBits]) {
				return
			}
		}
	}
}

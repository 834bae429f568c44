package beat

import "tramway/api"

// Heart beats.
type Heart struct {
	ticks uint64 // between beats; 0: it never beats
	gone  uint64 // ticks since the last beat
}

// NewHeart is a heart that beats each so many ticks (0: never).
func NewHeart(ticks uint64) (*Heart, api.Errno) {
	h := new(Heart)
	if err := h.Set(ticks); err != api.OK {
		return nil, err
	}
	return h, api.OK
}

// Set lets it beat each so many ticks from now on.
func (h *Heart) Set(ticks uint64) api.Errno {
	if ticks > maxTicks {
		return api.ErrArg
	}
	*h = Heart{ticks: ticks}
	return api.OK
}

// Tick: a tick goes by: the byte of a beat, if there is one now. In a state in which it may not be told it counts all the same.
func (h *Heart) Tick(state int) ([]byte, bool) {
	if h.ticks == 0 {
		return nil, false
	}
	h.gone++
	if h.gone < h.ticks {
		return nil, false
	}
	h.gone = 0
	if !isState(state) {
		return nil, false
	}
	return []byte{byte(state)}, true
}

package bits

import "tramway/api"

// Wired is what the wire has when all these texts are sent at once: a dominant bit wins, and who has ended is recessive.
func Wired(l []string) (string, api.Errno) {
	longest := 0
	for _, s := range l {
		if err := look(s); err != api.OK {
			return "", err
		}
		longest = max(longest, len(s))
	}
	wire := make([]rune, longest)
	for place := range longest {
		wire[place] = recessive
	}
	for _, s := range l {
		for place, level := range s {
			if level == dominant {
				wire[place] = dominant
			}
		}
	}
	return string(wire), api.OK
}

// Flip turns the bits at some places about.
func Flip(s string, at []int) (string, api.Errno) {
	if err := look(s); err != api.OK {
		return "", err
	}
	for _, place := range at {
		if place < 0 || place >= len(s) {
			return "", api.ErrArg
		}
	}
	text := []rune(s)
	for _, place := range at {
		text[place] = other(text[place])
	}
	return string(text), api.OK
}

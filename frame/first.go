package frame

import (
	"slices"

	"tramway/api"
)

// First is which of several frames comes first on a wire on which all begin at once. No field is the beginning of another one, so the one that never leaves off is the least text.
func First(l []api.Frame) (int, api.Errno) {
	if len(l) == 0 {
		return 0, api.ErrShort
	}
	fields := make([]string, len(l))
	for i, f := range l {
		field, err := Field(f)
		if err != api.OK {
			return 0, err
		}
		fields[i] = field
	}
	if anyTwice(fields) {
		return 0, api.ErrThere
	}
	return slices.Index(fields, slices.Min(fields)), api.OK
}

// anyTwice tells whether a text is there twice.
func anyTwice(l []string) bool {
	seen := make(map[string]struct{}, len(l))
	for _, s := range l {
		seen[s] = struct{}{}
	}
	return len(seen) < len(l)
}

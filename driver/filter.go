package driver

import "tramway/api"

// filter tells whether it lets a frame pass.
type filter func(api.Frame) bool

// filtersOf are filters as closures, each with a filter's numbers of its own: the list that was handed in is not kept.
func filtersOf(l []api.Filter) []filter {
	filters := make([]filter, len(l))
	for i, x := range l {
		filters[i] = func(f api.Frame) bool {
			return f.Extended == x.Extended && (f.ID^x.ID)&x.Mask == 0
		}
	}
	return filters
}

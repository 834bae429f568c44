package od

import (
	"tramway/api"
	"tramway/types"
)

// Check tells whether entries can be a dictionary.
func Check(l []api.Entry) api.Errno {
	if len(l) > api.MaxEntries {
		return api.ErrLong
	}
	ahead := map[place]int{}
	for i, e := range l {
		if err := can(e); err != api.OK {
			return err
		}
		at := placeOf(e.Index, e.Sub)
		if _, twice := ahead[at]; twice {
			return api.ErrThere
		}
		ahead[at] = i
	}
	return api.OK
}

// can tells whether an entry can be, whichever others there are.
func can(e api.Entry) api.Errno {
	if err := types.Check(e.Default); err != api.OK {
		return err
	}
	_, number := types.Size(e.Default.Type)
	switch {
	case e.Access < api.ReadOnly || e.Access > api.Const,
		e.Limited && !(number && between(e)),
		e.Map && !number:
		return api.ErrArg
	}
	return api.OK
}

// between tells whether an entry's limits can be, and what it has at first lies between them.
func between(e api.Entry) bool {
	low, errLow := types.Order(e.Default, e.Min)
	high, errHigh := types.Order(e.Default, e.Max)
	return errLow == api.OK && errHigh == api.OK && low >= 0 && high <= 0
}

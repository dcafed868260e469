package value

import (
	"cmp"
	"slices"
	"strings"

	"ramble/api"
)

// Compare is how a stands to b in the one order of all values: -1, 0 or 1.
// All fields are asked whatever the Kinds are, so that it is an order of those, too, that may not be.
func Compare(a, b api.Value) int {
	if c := cmp.Compare(a.Kind, b.Kind); c != 0 {
		return c
	}
	if c := cmp.Compare(a.N, b.N); c != 0 {
		return c
	}
	if c := strings.Compare(a.S, b.S); c != 0 {
		return c
	}
	return slices.CompareFunc(a.L, b.L, Compare)
}

// Same tells whether a and b are the same value.
func Same(a, b api.Value) bool { return Compare(a, b) == 0 }

// Min is the first value that is least; ErrNone, if there are none.
func Min(l ...api.Value) (api.Value, api.Errno) { return foremost(l, -1) }

// Max is the first value that is greatest; ErrNone, if there are none.
func Max(l ...api.Value) (api.Value, api.Errno) { return foremost(l, 1) }

// foremost is the first value to which no other one stands as side says.
func foremost(l []api.Value, side int) (api.Value, api.Errno) {
	if len(l) == 0 {
		return api.Value{}, api.ErrNone
	}
	best := l[0]
	for _, v := range l[1:] {
		if Compare(v, best) == side {
			best = v
		}
	}
	return Clone(best), api.OK
}

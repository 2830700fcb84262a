package dfa

import (
	"slices"

	"eyot/api"
)

// May tells whether d may be: whether a walk through it stays within it, whatever it reads.
func May(d api.Dfa) bool {
	if len(d.Next) == 0 || len(d.Next) != len(d.Ends) {
		return false
	}
	classes := int(slices.Max(d.Class[:])) + 1
	for _, row := range d.Next {
		if len(row) != classes || !allWithin(row, len(d.Next)) {
			return false
		}
	}
	return slices.Min(d.Ends) >= none
}

// allWithin tells whether each of row is a state, or none.
func allWithin(row []int, states int) bool {
	return !slices.ContainsFunc(row, func(n int) bool { return n < none || n >= states })
}

package dfa

import (
	"cmp"
	"slices"

	"eyot/api"
	"eyot/class"
)

// classesOf tells the classes of bytes that the spots' sets don't tell apart, from the one of the least byte on.
func classesOf(spots []spot) []api.Set {
	l := []api.Set{class.Not(api.Set{})}
	for _, s := range spots {
		l = split(l, s.set)
	}
	slices.SortFunc(l, byLeast)
	return l
}

// split is l, each class with bytes in s and others cut in two.
func split(l []api.Set, s api.Set) []api.Set {
	var out []api.Set
	for _, c := range l {
		for _, part := range []api.Set{class.And(c, s), class.And(c, class.Not(s))} {
			if part != (api.Set{}) {
				out = append(out, part)
			}
		}
	}
	return out
}

func byLeast(a, b api.Set) int { return cmp.Compare(least(a), least(b)) }

func least(s api.Set) byte {
	b, _ := class.Least(s)
	return b
}

// numbered tells of each byte the number of its class.
func numbered(classes []api.Set) [256]uint8 {
	var l [256]uint8
	for n, c := range classes {
		for b := range l {
			if class.Has(c, byte(b)) {
				l[b] = uint8(n)
			}
		}
	}
	return l
}

// numbersOf tells of each spot the numbers of the classes that its set is made of.
func numbersOf(spots []spot, classes []api.Set) [][]int {
	out := make([][]int, len(spots))
	for n, s := range spots {
		for k, c := range classes {
			if class.Has(s.set, least(c)) {
				out[n] = append(out[n], k)
			}
		}
	}
	return out
}

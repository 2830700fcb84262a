package place

import "math/bits"

// group is a set of places: bit n is place n, and MaxPlaces of them have room.
type group uint64

// list tells the places from the least on.
func (g group) list() []int {
	var l []int
	for ; g != 0; g &= g - 1 {
		l = append(l, bits.TrailingZeros64(uint64(g)))
	}
	return l
}

func lists(groups []group) [][]int {
	var l [][]int
	for _, g := range groups {
		l = append(l, g.list())
	}
	return l
}

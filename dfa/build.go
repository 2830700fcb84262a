package dfa

import (
	"slices"

	"eyot/api"
)

// builder finds the states: sets of spots that some text leads to, in order. The start stands first, and is the one without spots.
type builder struct {
	field
	classes int
	within  [][]int // of each spot its classes
	states  [][]int
}

// build tells the machine of a field; ErrCap: it would have more than MaxDfa states.
func build(f field) (api.Dfa, api.Errno) {
	classes := classesOf(f.spots)
	m := builder{f, len(classes), numbersOf(f.spots, classes), [][]int{nil}}
	d := api.Dfa{Class: numbered(classes)}
	for n := 0; n < len(m.states); n++ {
		row := m.row(n)
		if len(m.states) > api.MaxDfa {
			return api.Dfa{}, api.ErrCap
		}
		d.Next = append(d.Next, row)
		d.Ends = append(d.Ends, m.token(n))
	}
	return d, api.OK
}

// row tells the state behind state n of each class; the ones that are new stand behind all others from now on.
func (m *builder) row(n int) []int {
	after := m.first
	if n > 0 {
		after = m.behind(m.states[n])
	}
	var row []int
	for _, spots := range m.byClass(after) {
		row = append(row, m.number(spots))
	}
	return row
}

// byClass tells of each class which of these spots read it.
func (m *builder) byClass(spots []int) [][]int {
	l := make([][]int, m.classes)
	for _, n := range spots {
		for _, c := range m.within[n] {
			l[c] = append(l[c], n)
		}
	}
	return l
}

// number tells which state a set of spots is.
func (m *builder) number(spots []int) int {
	if len(spots) == 0 {
		return none
	}
	for n, s := range m.states {
		if slices.Equal(s, spots) {
			return n
		}
	}
	m.states = append(m.states, spots)
	return len(m.states) - 1
}

// token tells which token ends at state n; the start has read nothing.
func (m *builder) token(n int) int {
	if n == 0 {
		return m.null
	}
	return m.end(m.states[n])
}

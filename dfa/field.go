package dfa

import (
	"slices"

	"eyot/api"
	"eyot/place"
)

// spot is a place of one of the tokens; follow are the spots that may stand right behind it.
type spot struct {
	token  int
	set    api.Set
	follow []int
	last   bool
}

// field is the places of all tokens, numbered token by token; so the least of some spots is the first token's.
type field struct {
	spots []spot
	first []int
	null  int // the first token that matches the empty text, or none
}

// fieldOf tells the places of all tokens, or place.Of's first error.
func fieldOf(l []api.Token) (field, api.Errno) {
	f := field{null: none}
	for n, t := range l {
		p, e := place.Of(t.Rx)
		if e != api.OK {
			return field{}, e
		}
		f.add(n, p)
	}
	return f, api.OK
}

// add lays a token's places behind those that are there.
func (f *field) add(token int, p place.Places) {
	base := len(f.spots)
	f.first = append(f.first, moved(p.First, base)...)
	for n, s := range p.Sets {
		f.spots = append(f.spots, spot{token, s, moved(p.Follow[n], base), slices.Contains(p.Last, n)})
	}
	if p.Null && f.null == none {
		f.null = token
	}
}

// moved is l, each number greater by base.
func moved(l []int, base int) []int {
	var out []int
	for _, n := range l {
		out = append(out, n+base)
	}
	return out
}

// behind tells which spots may stand right behind one of these, from the least on.
func (f field) behind(spots []int) []int {
	is := make([]bool, len(f.spots))
	for _, n := range spots {
		for _, k := range f.spots[n].follow {
			is[k] = true
		}
	}
	var out []int
	for n := range is {
		if is[n] {
			out = append(out, n)
		}
	}
	return out
}

// end tells the first token that ends at one of these spots, or none.
func (f field) end(spots []int) int {
	for _, n := range spots {
		if f.spots[n].last {
			return f.spots[n].token
		}
	}
	return none
}

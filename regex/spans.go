package regex

import (
	"math/bits"

	"eyot/api"
	"eyot/class"
)

// spans tells of each place of a text (ahead of each byte, and behind the last) where a match that begins there may end, a bit for a place. All places at once, so that a text that matches in many ways takes no longer than another.
type spans []uint64

// spansOf tells those of an expression that may be, in a text of at most mostBytes bytes.
func spansOf(r api.Rx, w []byte) spans {
	if r.Kind == api.RxSet {
		return spansOfSet(r.Set, w)
	}
	m := spansOf(r.Args[0], w)
	switch r.Kind {
	case api.RxCat:
		for _, a := range r.Args[1:] {
			m = m.then(spansOf(a, w))
		}
	case api.RxAlt:
		for _, a := range r.Args[1:] {
			m = m.or(spansOf(a, w))
		}
	case api.RxStar:
		m = m.again()
	case api.RxPlus:
		m = m.then(m.again())
	case api.RxOpt:
		m = m.or(spansOfNothing(w))
	}
	return m
}

func spansOfSet(s api.Set, w []byte) spans {
	m := make(spans, len(w)+1)
	for i, b := range w {
		if class.Has(s, b) {
			m[i] = 1 << (i + 1)
		}
	}
	return m
}

func spansOfNothing(w []byte) spans {
	m := make(spans, len(w)+1)
	for i := range m {
		m[i] = 1 << i
	}
	return m
}

func (m spans) has(from, to int) bool { return m[from]>>to&1 == 1 }

// ends tells where matches end that begin at any of these places.
func (m spans) ends(places uint64) uint64 {
	var to uint64
	for ; places != 0; places &= places - 1 {
		to |= m[bits.TrailingZeros64(places)]
	}
	return to
}

func (m spans) or(n spans) spans {
	l := make(spans, len(m))
	for i := range l {
		l[i] = m[i] | n[i]
	}
	return l
}

func (m spans) then(n spans) spans {
	l := make(spans, len(m))
	for i := range l {
		l[i] = n.ends(m[i])
	}
	return l
}

// again tells those of any number of matches.
func (m spans) again() spans {
	l := make(spans, len(m))
	for i := len(l) - 1; i >= 0; i-- {
		here := uint64(1) << i
		// A match of nothing leads back to its own place, of which nothing is known yet; the places behind it are done.
		l[i] = here | l.ends(m[i]&^here)
	}
	return l
}

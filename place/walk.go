package place

import "eyot/api"

// part is what the parts beside and above have to know of a part of an expression.
type part struct {
	first, last group
	null        bool
}

// walk goes through an expression once, from the left; what may stand right behind a place is known only when all parts around it are done.
type walk struct {
	sets   []api.Set
	follow []group
}

// through goes through an expression that may be.
func (w *walk) through(r api.Rx) part {
	if r.Kind == api.RxSet {
		return w.add(r.Set)
	}
	p := w.through(r.Args[0])
	switch r.Kind {
	case api.RxCat:
		for _, a := range r.Args[1:] {
			p = w.then(p, w.through(a))
		}
	case api.RxAlt:
		for _, a := range r.Args[1:] {
			p = p.or(w.through(a))
		}
	case api.RxStar:
		w.lead(p.last, p.first)
		p.null = true
	case api.RxPlus:
		w.lead(p.last, p.first)
	case api.RxOpt:
		p.null = true
	}
	return p
}

// add makes the next place.
func (w *walk) add(s api.Set) part {
	here := group(1) << len(w.sets)
	w.sets = append(w.sets, s)
	w.follow = append(w.follow, 0)
	return part{first: here, last: here}
}

// then is p, and q behind it.
func (w *walk) then(p, q part) part {
	w.lead(p.last, q.first)
	both := part{p.first, q.last, p.null && q.null}
	if p.null {
		both.first |= q.first
	}
	if q.null {
		both.last |= p.last
	}
	return both
}

func (p part) or(q part) part {
	return part{p.first | q.first, p.last | q.last, p.null || q.null}
}

// lead lets each of to stand right behind each of from.
func (w *walk) lead(from, to group) {
	for _, n := range from.list() {
		w.follow[n] |= to
	}
}

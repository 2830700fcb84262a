package piece

import "eyot/api"

func size(p api.Piece) int { return p.To - p.From }

// place tells in which piece of l the byte at stands, and how far in; the end of l is behind its last piece.
func place(l []api.Piece, at int) (i, off int) {
	for i, p := range l {
		if at < size(p) {
			return i, at
		}
		at -= size(p)
	}
	return len(l), 0
}

// split tells what of l is ahead of the byte at, and what is from there on. Both may be parts of l: they are for reading.
func split(l []api.Piece, at int) (ahead, behind []api.Piece) {
	i, off := place(l, at)
	if off == 0 {
		return l[:i], l[i:]
	}
	left, right := cut(l[i], off)
	ahead = append(append(ahead, l[:i]...), left)
	behind = append(append(behind, right), l[i+1:]...)
	return ahead, behind
}

// cut tells the first off bytes of p, and the others.
func cut(p api.Piece, off int) (left, right api.Piece) {
	left, right = p, p
	left.To = p.From + off
	right.From = left.To
	return left, right
}

// join tells the pieces of the lists, one behind the other, as a list of its own: without empty ones, and with one piece for such as touch.
func join(lists ...[]api.Piece) []api.Piece {
	var joined []api.Piece
	for _, l := range lists {
		for _, p := range l {
			joined = put(joined, p)
		}
	}
	return joined
}

// put tells l with p behind it; it may change l's last piece.
func put(l []api.Piece, p api.Piece) []api.Piece {
	last := len(l) - 1
	switch {
	case size(p) == 0:
		return l
	case last >= 0 && touch(l[last], p):
		l[last].To = p.To
		return l
	}
	return append(l, p)
}

// touch tells whether q goes on where p ends; the other way round one piece would spell another text.
func touch(p, q api.Piece) bool {
	return p.Added == q.Added && p.To == q.From
}

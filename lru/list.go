package lru

// node is a key and its value, between those that were used just after it and just before it.
type node[V any] struct {
	key          int
	value        V
	newer, older *node[V]
}

// list holds nodes by their use, linked both ways so that any of them leaves without a search; its zero value is empty.
type list[V any] struct {
	newest, oldest *node[V]
}

// add has n, which is in no list, be the newest.
func (l *list[V]) add(n *node[V]) {
	n.newer, n.older = nil, l.newest
	if l.newest == nil {
		l.oldest = n
	} else {
		l.newest.newer = n
	}
	l.newest = n
}

// remove takes n, which is in the list, out of it.
func (l *list[V]) remove(n *node[V]) {
	if n.newer == nil {
		l.newest = n.older
	} else {
		n.newer.older = n.older
	}
	if n.older == nil {
		l.oldest = n.newer
	} else {
		n.older.newer = n.newer
	}
}

package regex

import "eyot/api"

// How tightly the kinds bind, by the grammar's words. One that binds as tightly as its Arg may not have it; one that binds more tightly is shown with brackets round it.
const (
	noLevel = iota
	altLevel
	catLevel
	repLevel
	atomLevel
)

func levelOf(kind int) int {
	switch kind {
	case api.RxAlt:
		return altLevel
	case api.RxCat:
		return catLevel
	case api.RxStar, api.RxPlus, api.RxOpt:
		return repLevel
	case api.RxSet:
		return atomLevel
	}
	return noLevel
}

// row tells where the Args of an expression stand, and its kind: all that the look at them hangs on.
type row struct {
	kind  int
	first *api.Rx
	count int
}

// isFormed tells whether ErrForm is nowhere in r. It keeps a list of what it has to look into, since r may be nested deeper than a stack; and it looks at no row twice, since r may have one row in very many places, or within itself.
func isFormed(r api.Rx) bool {
	if !isNode(r) {
		return false
	}
	todo, seen := []api.Rx{r}, map[row]struct{}{}
	for len(todo) > 0 {
		top := todo[len(todo)-1]
		todo = todo[:len(todo)-1]
		for _, a := range top.Args {
			if !isNode(a) || levelOf(a.Kind) == levelOf(top.Kind) {
				return false
			}
			if isNew(seen, a) {
				todo = append(todo, a)
			}
		}
	}
	return true
}

// isNew tells whether x has Args that were not noted yet, and notes them.
func isNew(seen map[row]struct{}, x api.Rx) bool {
	if len(x.Args) == 0 {
		return false
	}
	where := row{x.Kind, &x.Args[0], len(x.Args)}
	if _, is := seen[where]; is {
		return false
	}
	seen[where] = struct{}{}
	return true
}

// isNode tells whether r has what its kind asks for, whatever its Args are.
func isNode(r api.Rx) bool {
	hasSet := r.Set != (api.Set{})
	switch levelOf(r.Kind) {
	case altLevel, catLevel:
		return !hasSet && len(r.Args) >= 2
	case repLevel:
		return !hasSet && len(r.Args) == 1
	case atomLevel:
		return hasSet && len(r.Args) == 0
	}
	return false
}

// isSmall tells whether r is within MaxNodes and MaxDepth; it looks no further.
func isSmall(r api.Rx) bool {
	left := api.MaxNodes
	return takes(r, api.MaxDepth, &left)
}

// takes counts r's nodes off from left, and tells whether they are no more, and r no deeper than depth.
func takes(r api.Rx, depth int, left *int) bool {
	if depth == 0 || *left == 0 {
		return false
	}
	*left--
	for _, a := range r.Args {
		if !takes(a, depth-1, left) {
			return false
		}
	}
	return true
}

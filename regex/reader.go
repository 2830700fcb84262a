package regex

import (
	"strings"

	"eyot/api"
	"eyot/class"
)

// reader goes through a text from its beginning; what it does not find is a panic with an Errno.
type reader struct {
	rest string
	// open is how many brackets it stands within.
	open int
}

func (r *reader) whole() api.Rx {
	x := r.alt()
	if r.rest != "" {
		panic(api.ErrForm)
	}
	return x
}

func (r *reader) alt() api.Rx {
	l := []api.Rx{r.cat()}
	for r.skip("|") {
		l = append(l, r.cat())
	}
	return oneOrAll(api.RxAlt, l)
}

func (r *reader) cat() api.Rx {
	l := []api.Rx{r.rep()}
	for !r.endsCat() {
		l = append(l, r.rep())
	}
	return oneOrAll(api.RxCat, l)
}

func (r *reader) endsCat() bool {
	return r.rest == "" || r.rest[0] == '|' || r.rest[0] == ')'
}

func (r *reader) rep() api.Rx {
	x := r.atom()
	for i := range signs {
		if r.skip(signs[i : i+1]) {
			return api.Rx{Kind: firstSign + i, Args: []api.Rx{x}}
		}
	}
	return x
}

func (r *reader) atom() api.Rx {
	if r.skip("(") {
		return r.brackets()
	}
	set, n, e := class.Parse(r.rest)
	must(e)
	r.rest = r.rest[n:]
	return api.Rx{Kind: api.RxSet, Set: set}
}

// brackets reads what stands behind the first of them.
func (r *reader) brackets() api.Rx {
	// What stands within so many others is not read, so that no text makes the reader go deeper.
	if r.open > api.MaxDepth {
		panic(api.ErrCap)
	}
	r.open++
	x := r.alt()
	if !r.skip(")") {
		panic(api.ErrForm)
	}
	r.open--
	return x
}

// skip takes s if it stands next, and tells whether it did.
func (r *reader) skip(s string) (is bool) {
	r.rest, is = strings.CutPrefix(r.rest, s)
	return is
}

// oneOrAll tells the one expression of l, or what kind makes of all of them.
func oneOrAll(kind int, l []api.Rx) api.Rx {
	if len(l) == 1 {
		return l[0]
	}
	return api.Rx{Kind: kind, Args: l}
}

// must ends the reading from however deep within; Parse recovers.
func must(e api.Errno) {
	if e != api.OK {
		panic(e)
	}
}

// errnoOf tells the error that the reading ended with.
func errnoOf(why any) api.Errno {
	if e, ok := why.(api.Errno); ok {
		return e
	}
	return api.ErrForm
}

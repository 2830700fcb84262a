package class

import (
	"strings"

	"eyot/api"
)

// reader goes through a text from its beginning; what it does not find is a panic.
type reader struct {
	text string
	at   int
}

func (r *reader) class() api.Set {
	switch {
	case r.skip('.'):
		return Not(api.Set{})
	case r.skip('['):
		return r.brackets()
	}
	b := r.sign()
	return run{b, b}.set()
}

// brackets reads what stands behind the first of them.
func (r *reader) brackets() api.Set {
	others := r.skip('^')
	// A part is read ahead of asking for the end, since there has to be one.
	set := r.part()
	for !r.skip(']') {
		set = Or(set, r.part())
	}
	if others {
		return Not(set)
	}
	return set
}

func (r *reader) part() api.Set {
	first := r.sign()
	last := first
	if r.skip('-') {
		last = r.sign()
	}
	must(first <= last)
	return run{first, last}.set()
}

func (r *reader) sign() byte {
	b := r.take()
	if b != '\\' {
		must(isSeen(b) && !isMark(b))
		return b
	}
	if r.skip('x') {
		high := r.digit()
		return high<<4 | r.digit()
	}
	b = r.take()
	must(isMark(b))
	return b
}

func (r *reader) digit() byte {
	d := strings.IndexByte(hexDigits, r.take())
	must(d >= 0)
	return byte(d)
}

func (r *reader) take() byte {
	must(r.at < len(r.text))
	b := r.text[r.at]
	r.at++
	return b
}

// skip takes the next byte if it is b, and tells whether it was.
func (r *reader) skip(b byte) bool {
	is := r.at < len(r.text) && r.text[r.at] == b
	if is {
		r.at++
	}
	return is
}

package regex

import (
	"strings"

	"eyot/api"
	"eyot/class"
)

// The signs of the kinds from firstSign on.
const (
	signs     = "*+?"
	firstSign = api.RxStar
)

// show tells the text of an expression that may be.
func show(r api.Rx) string {
	l := showArgs(r)
	switch r.Kind {
	case api.RxSet:
		return class.Show(r.Set)
	case api.RxCat:
		return strings.Join(l, "")
	case api.RxAlt:
		return strings.Join(l, "|")
	}
	return l[0] + signs[r.Kind-firstSign:][:1]
}

func showArgs(r api.Rx) []string {
	var l []string
	for _, a := range r.Args {
		s := show(a)
		if levelOf(a.Kind) < levelOf(r.Kind) {
			s = "(" + s + ")"
		}
		l = append(l, s)
	}
	return l
}

package regex

import (
	"fmt"
	"math/rand"
	"slices"
	"strings"

	"eyot/api"
	"eyot/class"
)

// What is in this file are plain ways to work the answers out; they lean on nothing of the package.

func set(s string) api.Rx { return api.Rx{Kind: api.RxSet, Set: class.Of([]byte(s))} }

func of(kind int, l ...api.Rx) api.Rx { return api.Rx{Kind: kind, Args: l} }

func cat(l ...api.Rx) api.Rx { return of(api.RxCat, l...) }

func alt(l ...api.Rx) api.Rx { return of(api.RxAlt, l...) }

func star(x api.Rx) api.Rx { return of(api.RxStar, x) }

func plus(x api.Rx) api.Rx { return of(api.RxPlus, x) }

func opt(x api.Rx) api.Rx { return of(api.RxOpt, x) }

var (
	a = set("a")
	b = set("b")
	c = set("c")
)

// times is n times x.
func times(n int, x api.Rx) []api.Rx {
	var l []api.Rx
	for range n {
		l = append(l, clone(x))
	}
	return l
}

func same(x, y api.Rx) bool {
	return x.Kind == y.Kind && x.Set == y.Set && slices.EqualFunc(x.Args, y.Args, same)
}

// clone shares no memory with x.
func clone(x api.Rx) api.Rx {
	var l []api.Rx
	for _, y := range x.Args {
		l = append(l, clone(y))
	}
	x.Args = l
	return x
}

// text is a text for people that tells all of x.
func text(x api.Rx) string {
	s := fmt.Sprint(x.Kind)
	if x.Set != (api.Set{}) {
		s += fmt.Sprintf("%q", class.Show(x.Set))
	}
	for i, y := range x.Args {
		s += []string{"(", " "}[min(i, 1)] + text(y)
	}
	if len(x.Args) > 0 {
		s += ")"
	}
	return s
}

func nodes(x api.Rx) int {
	n := 1
	for _, y := range x.Args {
		n += nodes(y)
	}
	return n
}

func depth(x api.Rx) int {
	n := 0
	for _, y := range x.Args {
		n = max(n, depth(y))
	}
	return n + 1
}

func isSign(kind int) bool {
	return kind == api.RxStar || kind == api.RxPlus || kind == api.RxOpt
}

// plainForm tells whether x has no fault of form, under an expression of kind above (0: it is the whole).
func plainForm(x api.Rx, above int) bool {
	n, empty := len(x.Args), x.Set == api.Set{}
	ok := false
	switch x.Kind {
	case api.RxSet:
		ok = n == 0 && !empty
	case api.RxCat:
		ok = n > 1 && empty && above != api.RxCat
	case api.RxAlt:
		ok = n > 1 && empty && above != api.RxAlt
	case api.RxStar, api.RxPlus, api.RxOpt:
		ok = n == 1 && empty && !isSign(above)
	}
	for _, y := range x.Args {
		ok = ok && plainForm(y, x.Kind)
	}
	return ok
}

func plainMay(x api.Rx) api.Errno {
	switch {
	case !plainForm(x, 0):
		return api.ErrForm
	case nodes(x) > 40 || depth(x) > 12:
		return api.ErrCap
	}
	return api.OK
}

// frame is what stands in brackets so far: cats, the last of them not ended.
type frame struct{ cats [][]api.Rx }

func (f *frame) last() *[]api.Rx { return &f.cats[len(f.cats)-1] }

func (f *frame) add(x api.Rx) { *f.last() = append(*f.last(), x) }

func (f *frame) expression() api.Rx {
	var l []api.Rx
	for _, reps := range f.cats {
		if len(reps) == 1 {
			l = append(l, reps[0])
		} else {
			l = append(l, cat(reps...))
		}
	}
	if len(l) == 1 {
		return l[0]
	}
	return alt(l...)
}

// plainParse is a machine with a stack that goes through s once, with no look at what stands behind.
func plainParse(s string) (api.Rx, api.Errno) {
	stack := []*frame{{make([][]api.Rx, 1)}}
	signed := false
	for s != "" {
		top := stack[len(stack)-1]
		l, n := top.last(), 1
		kind := strings.IndexByte("    *+?", s[0])
		switch {
		case s[0] == '|' && len(*l) > 0:
			top.cats, signed = append(top.cats, nil), false
		case kind > 0 && len(*l) > 0 && !signed:
			(*l)[len(*l)-1], signed = of(kind, (*l)[len(*l)-1]), true
		case s[0] == '(':
			if len(stack) > 13 {
				return api.Rx{}, api.ErrCap
			}
			stack, signed = append(stack, &frame{make([][]api.Rx, 1)}), false
		case s[0] == ')' && len(*l) > 0 && len(stack) > 1:
			stack, signed = stack[:len(stack)-1], false
			stack[len(stack)-1].add(top.expression())
		default:
			x, k, e := class.Parse(s)
			if e != api.OK {
				return api.Rx{}, api.ErrForm
			}
			top.add(api.Rx{Kind: api.RxSet, Set: x})
			n, signed = k, false
		}
		s = s[n:]
	}
	if len(stack) > 1 || len(*stack[0].last()) == 0 {
		return api.Rx{}, api.ErrForm
	}
	x := stack[0].expression()
	if e := plainMay(x); e != api.OK {
		return api.Rx{}, e
	}
	return x, api.OK
}

// plainIn tries every way through x, on from i in w; then is asked where it may have ended.
func plainIn(x api.Rx, w string, i int, then func(int) bool) bool {
	switch x.Kind {
	case api.RxSet:
		return i < len(w) && x.Set[w[i]/64]>>(w[i]%64)%2 == 1 && then(i+1)
	case api.RxCat:
		if len(x.Args) == 0 {
			return then(i)
		}
		return plainIn(x.Args[0], w, i, func(j int) bool { return plainIn(cat(x.Args[1:]...), w, j, then) })
	case api.RxAlt:
		return slices.ContainsFunc(x.Args, func(y api.Rx) bool { return plainIn(y, w, i, then) })
	case api.RxOpt:
		return then(i) || plainIn(x.Args[0], w, i, then)
	case api.RxStar:
		return then(i) || plainIn(x.Args[0], w, i, func(j int) bool { return j > i && plainIn(x, w, j, then) })
	case api.RxPlus:
		return plainIn(x.Args[0], w, i, func(j int) bool { return then(j) || j > i && plainIn(star(x.Args[0]), w, j, then) })
	}
	return false
}

func plainMatch(x api.Rx, w string) bool {
	return plainIn(x, w, 0, func(i int) bool { return i == len(w) })
}

// pattern is x as the library's regular expressions have it, of sets of bytes below 128, with brackets round everything.
func pattern(x api.Rx) string {
	var l []string
	for _, y := range x.Args {
		l = append(l, pattern(y))
	}
	switch x.Kind {
	case api.RxSet:
		s := "["
		for i := range 128 {
			if x.Set[i/64]>>(i%64)%2 == 1 {
				s += fmt.Sprintf(`\x%02x`, i)
			}
		}
		return s + "]"
	case api.RxCat:
		return "(?:" + strings.Join(l, "") + ")"
	case api.RxAlt:
		return "(?:" + strings.Join(l, "|") + ")"
	}
	return "(?:" + l[0] + []string{"*", "+", "?"}[x.Kind-api.RxStar] + ")"
}

// anyRx is an expression that may be, of at most about n nodes, deep and no deeper, under an expression of kind above.
func anyRx(r *rand.Rand, n, deep, above int) api.Rx {
	kind := 1 + r.Intn(6)
	for kind == above || isSign(kind) && isSign(above) {
		kind = 1 + r.Intn(6)
	}
	switch {
	case kind == api.RxSet || deep < 2 || n < 4:
		return set([]string{"a", "b", "c", "ab", "bc", "abc", "x*", "(|)", "\x00\xff"}[r.Intn(9)])
	case isSign(kind):
		return of(kind, anyRx(r, n-1, deep-1, kind))
	}
	var l []api.Rx
	for k := 2 + r.Intn(3); len(l) < k; {
		l = append(l, anyRx(r, (n-1)/k, deep-1, kind))
	}
	return of(kind, l...)
}

// everyRx is all expressions of at most n nodes, of a, of b and of both, under an expression of kind above.
func everyRx(n, above int) []api.Rx {
	if n < 1 {
		return nil
	}
	l := []api.Rx{a, b, set("ab")}
	for kind := api.RxStar; kind <= api.RxOpt && !isSign(above); kind++ {
		for _, x := range everyRx(n-1, kind) {
			l = append(l, of(kind, x))
		}
	}
	for _, kind := range []int{api.RxCat, api.RxAlt} {
		for k := 2; k < n && kind != above; k++ {
			for _, args := range everyRow(k, n-1, kind) {
				l = append(l, of(kind, args...))
			}
		}
	}
	return l
}

// everyRow is all rows of k expressions, of at most n nodes in all.
func everyRow(k, n, above int) [][]api.Rx {
	if k == 0 {
		return [][]api.Rx{nil}
	}
	var l [][]api.Rx
	for _, x := range everyRx(n-k+1, above) {
		for _, more := range everyRow(k-1, n-nodes(x), above) {
			l = append(l, append([]api.Rx{x}, more...))
		}
	}
	return l
}

// chain is n expressions, one within the other, the last of them of a; no two side by side are of one kind.
func chain(n int, kinds ...int) api.Rx {
	x := a
	for i := range n - 1 {
		kind := kinds[i%len(kinds)]
		if isSign(kind) {
			x = of(kind, x)
		} else {
			x = of(kind, b, x)
		}
	}
	return x
}

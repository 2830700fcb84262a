package place

import (
	"fmt"
	"math/rand"
	"slices"
	"strings"
	"testing"

	"eyot/api"
	"eyot/class"
	"eyot/regex"
)

// What is in this file are plain ways to work the answers out; they lean on nothing of the package but its type.

func rx(t *testing.T, s string) api.Rx {
	t.Helper()
	r, e := regex.Parse(s)
	if e != api.OK {
		t.Fatalf("%s: %d", s, e)
	}
	return r
}

func of(kind int, l ...api.Rx) api.Rx { return api.Rx{Kind: kind, Args: l} }

// clone shares no memory with x.
func clone(x api.Rx) api.Rx {
	var l []api.Rx
	for _, y := range x.Args {
		l = append(l, clone(y))
	}
	x.Args = l
	return x
}

func nodes(x api.Rx) int {
	n := 1
	for _, y := range x.Args {
		n += nodes(y)
	}
	return n
}

func depth(x api.Rx) int {
	n := 0
	for _, y := range x.Args {
		n = max(n, depth(y))
	}
	return n + 1
}

func same(p, q Places) bool {
	return slices.Equal(p.Sets, q.Sets) && slices.Equal(p.First, q.First) && slices.Equal(p.Last, q.Last) && slices.EqualFunc(p.Follow, q.Follow, slices.Equal) && p.Null == q.Null
}

func isZero(p Places) bool {
	return p.Sets == nil && p.First == nil && p.Last == nil && p.Follow == nil && !p.Null
}

func copyOf(p Places) Places {
	q := Places{slices.Clone(p.Sets), slices.Clone(p.First), slices.Clone(p.Last), nil, p.Null}
	for _, l := range p.Follow {
		q.Follow = append(q.Follow, slices.Clone(l))
	}
	return q
}

// text is a short text of places: Sets; First; Last; Follow; Null. A place is a digit, no place a line.
func text(p Places) string {
	digits := func(l []int) string {
		if len(l) == 0 {
			return "-"
		}
		s := ""
		for _, n := range l {
			s += string("0123456789abcdefghijklmnopqrstuvwxyzABCDEFGHIJ"[n])
		}
		return s
	}
	var sets, follow []string
	for _, s := range p.Sets {
		sets = append(sets, class.Show(s))
	}
	for _, l := range p.Follow {
		follow = append(follow, digits(l))
	}
	null := "no"
	if p.Null {
		null = "null"
	}
	return strings.Join([]string{strings.Join(sets, ","), digits(p.First), digits(p.Last), strings.Join(follow, ","), null}, " ")
}

// graph is an expression as knots: of each one those that it leads to with no byte between, and of each place the knots ahead of it and behind it.
type graph struct {
	to         [][]int
	in, out    []int
	sets       []api.Set
	start, end int
}

func (g *graph) knot() int {
	g.to = append(g.to, nil)
	return len(g.to) - 1
}

func (g *graph) edge(from, to int) { g.to[from] = append(g.to[from], to) }

func (g *graph) build(x api.Rx) (from, to int) {
	from, to = g.knot(), g.knot()
	switch x.Kind {
	case api.RxSet:
		g.in, g.out, g.sets = append(g.in, from), append(g.out, to), append(g.sets, x.Set)
		return from, to
	case api.RxCat:
		at := from
		for _, y := range x.Args {
			in, out := g.build(y)
			g.edge(at, in)
			at = out
		}
		g.edge(at, to)
		return from, to
	}
	for _, y := range x.Args {
		in, out := g.build(y)
		g.edge(from, in)
		g.edge(out, to)
		if x.Kind == api.RxStar || x.Kind == api.RxPlus {
			g.edge(out, in)
		}
		if x.Kind == api.RxStar || x.Kind == api.RxOpt {
			g.edge(in, out)
		}
	}
	return from, to
}

// from tells which places, and whether the end, are reached from a knot with no byte between.
func (g *graph) from(knot int) (places []int, end bool) {
	seen, todo := make([]bool, len(g.to)), []int{knot}
	for len(todo) > 0 {
		k := todo[0]
		todo = todo[1:]
		if !seen[k] {
			seen[k] = true
			todo = append(todo, g.to[k]...)
		}
	}
	for n, k := range g.in {
		if seen[k] {
			places = append(places, n)
		}
	}
	return places, seen[g.end]
}

// plainOf works the places of an expression that may be out by its graph.
func plainOf(x api.Rx) Places {
	var g graph
	g.start, g.end = g.build(x)
	p := Places{Sets: g.sets}
	p.First, p.Null = g.from(g.start)
	for n, k := range g.out {
		l, end := g.from(k)
		p.Follow = append(p.Follow, l)
		if end {
			p.Last = append(p.Last, n)
		}
	}
	return p
}

// ways are the matches of x in which no part stands more than twice where it may stand again and again; place n is the byte n.
func ways(x api.Rx, sets *[]api.Set) map[string]bool {
	if x.Kind == api.RxSet {
		*sets = append(*sets, x.Set)
		return map[string]bool{string([]byte{byte(len(*sets) - 1)}): true}
	}
	l := ways(x.Args[0], sets)
	for _, y := range x.Args[1:] {
		if more := ways(y, sets); x.Kind == api.RxCat {
			l = pairs(l, more)
		} else {
			l = either(l, more)
		}
	}
	if x.Kind == api.RxStar || x.Kind == api.RxPlus {
		l = either(l, pairs(l, l))
	}
	if x.Kind == api.RxStar || x.Kind == api.RxOpt {
		l = either(l, map[string]bool{"": true})
	}
	return l
}

func pairs(a, b map[string]bool) map[string]bool {
	l := map[string]bool{}
	for v := range a {
		for w := range b {
			l[v+w] = true
		}
	}
	return l
}

func either(a, b map[string]bool) map[string]bool {
	l := map[string]bool{}
	for w := range a {
		l[w] = true
	}
	for w := range b {
		l[w] = true
	}
	return l
}

// wayOf works the places of a small expression that may be out by its matches, as the chapter's words have it.
func wayOf(x api.Rx) Places {
	var p Places
	all := ways(x, &p.Sets)
	n := len(p.Sets)
	first, last, pair := make([]bool, n), make([]bool, n), make([][]bool, n)
	for i := range pair {
		pair[i] = make([]bool, n)
	}
	for w := range all {
		if w == "" {
			p.Null = true
			continue
		}
		first[w[0]], last[w[len(w)-1]] = true, true
		for i := range len(w) - 1 {
			pair[w[i]][w[i+1]] = true
		}
	}
	p.First, p.Last = numbers(first), numbers(last)
	for _, l := range pair {
		p.Follow = append(p.Follow, numbers(l))
	}
	return p
}

func numbers(is []bool) []int {
	var l []int
	for n := range is {
		if is[n] {
			l = append(l, n)
		}
	}
	return l
}

// spells tells whether a way through the places spells w.
func spells(p Places, w string) bool {
	if w == "" {
		return p.Null
	}
	at, next := map[int]bool{}, p.First
	for i := range len(w) {
		at = map[int]bool{}
		for _, n := range next {
			if class.Has(p.Sets[n], w[i]) {
				at[n] = true
			}
		}
		next = nil
		for n := range at {
			next = append(next, p.Follow[n]...)
		}
	}
	return slices.ContainsFunc(p.Last, func(n int) bool { return at[n] })
}

// anyWord is a text that some way through the places spells, of at most about most bytes.
func anyWord(r *rand.Rand, p Places, most int) string {
	if p.Null && r.Intn(8) == 0 {
		return ""
	}
	w := ""
	for next := p.First; len(next) > 0; {
		n := next[r.Intn(len(next))]
		for {
			if i := r.Intn(256); class.Has(p.Sets[n], byte(i)) {
				w += string([]byte{byte(i)})
				break
			}
		}
		if slices.Contains(p.Last, n) && (len(w) >= most || r.Intn(6) == 0) || len(w) > most+40 {
			break
		}
		next = p.Follow[n]
	}
	return w
}

// anyText is the text of an expression that may stand under a kind, of about n nodes; it may be too deep.
func anyText(r *rand.Rand, n, above int) string {
	kind := api.RxSet + r.Intn(6)
	if n < 3 || kind == api.RxSet {
		return []string{"a", "b", "c", "[ab]", "[bc]", "[^a]", ".", "x", `\x00`, `\*`}[r.Intn(10)]
	}
	if kind >= api.RxStar {
		if above >= api.RxStar {
			return anyText(r, n, above)
		}
		return anyText(r, n-1, kind) + "*+?"[kind-api.RxStar:][:1]
	}
	if kind == above {
		return anyText(r, n, above)
	}
	var l []string
	for k := 2 + r.Intn(3); len(l) < k; {
		l = append(l, anyText(r, (n-1)/k, kind))
	}
	s := strings.Join(l, []string{"", "|"}[kind-api.RxCat])
	if above > kind && !(kind == api.RxCat && above == api.RxAlt) {
		s = "(" + s + ")"
	}
	return s
}

// textsOf is all texts of at most n of these bytes.
func textsOf(letters string, n int) []string {
	all, last := []string{""}, []string{""}
	for range n {
		var longer []string
		for _, w := range last {
			for i := range len(letters) {
				longer = append(longer, w+letters[i:i+1])
			}
		}
		all, last = append(all, longer...), longer
	}
	return all
}

// shown is a text for people of an expression; of one that may not be it looks no further in, since that may have no end.
func shown(x api.Rx) string {
	if s := regex.Show(x); s != "" {
		return s
	}
	return fmt.Sprintf("kind %d of set %q and %d parts", x.Kind, class.Show(x.Set), len(x.Args))
}

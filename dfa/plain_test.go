package dfa

import (
	"fmt"
	"math/rand"
	"slices"
	"strings"
	"testing"

	"eyot/api"
	"eyot/class"
	"eyot/place"
	"eyot/regex"
)

// What is in this file are plain ways to work the answers out; they lean on nothing of the package.

func rx(t *testing.T, s string) api.Rx {
	t.Helper()
	r, e := regex.Parse(s)
	if e != api.OK {
		t.Fatalf("%s: %d", s, e)
	}
	return r
}

func tokens(t *testing.T, l ...string) []api.Token {
	t.Helper()
	var out []api.Token
	for _, s := range l {
		out = append(out, api.Token{Rx: rx(t, s)})
	}
	return out
}

// may tells the tokens of those texts that are expressions.
func may(l ...string) []api.Token {
	var out []api.Token
	for _, s := range l {
		if r, e := regex.Parse(s); e == api.OK {
			out = append(out, api.Token{Rx: r})
		}
	}
	return out
}

func shown(l []api.Token) string {
	var out []string
	for _, t := range l {
		out = append(out, regex.Show(t.Rx))
	}
	return strings.Join(out, "  ")
}

func same(d, c api.Dfa) bool {
	return d.Class == c.Class && slices.EqualFunc(d.Next, c.Next, slices.Equal) && slices.Equal(d.Ends, c.Ends)
}

func isZero(d api.Dfa) bool {
	return d.Class == [256]uint8{} && d.Next == nil && d.Ends == nil
}

func copyOf(d api.Dfa) api.Dfa {
	c := api.Dfa{Class: d.Class, Ends: slices.Clone(d.Ends)}
	for _, row := range d.Next {
		c.Next = append(c.Next, slices.Clone(row))
	}
	return c
}

// text is a short text of a machine: the bytes of each class; of each state its row and which token ends there, none a line.
func text(d api.Dfa) string {
	sets := map[uint8]api.Set{}
	most := 0
	for b, c := range d.Class {
		sets[c] = class.Or(sets[c], class.Of([]byte{byte(b)}))
		most = max(most, int(c))
	}
	var l []string
	for c := range most + 1 {
		l = append(l, class.Show(sets[uint8(c)]))
	}
	out := []string{strings.Join(l, ",")}
	for s, row := range d.Next {
		line := ""
		for _, n := range row {
			line += sign(n)
		}
		out = append(out, line+":"+sign(d.Ends[s]))
	}
	return strings.Join(out, " ")
}

func sign(n int) string {
	if n < 0 {
		return "-"
	}
	return fmt.Sprintf("%c", '0'+rune(n))
}

// letters are the least bytes of the classes: of those bytes that one Set of l has and another has not.
func letters(l []api.Token) (least []byte, of [256]uint8) {
	var sets []api.Set
	var look func(x api.Rx)
	look = func(x api.Rx) {
		if x.Kind == api.RxSet {
			sets = append(sets, x.Set)
		}
		for _, y := range x.Args {
			look(y)
		}
	}
	for _, t := range l {
		look(t.Rx)
	}
	known := map[string]uint8{}
	for b := range 256 {
		in := ""
		for _, s := range sets {
			in += map[bool]string{true: "y", false: "n"}[class.Has(s, byte(b))]
		}
		if _, is := known[in]; !is {
			known[in] = uint8(len(known))
			least = append(least, byte(b))
		}
		of[b] = known[in]
	}
	return least, of
}

// reader goes through an expression in every way in which it may match, and notes which places the last byte of w may be at.
type reader struct {
	w    []byte
	note func(place int)
}

// walk matches x, of which the first Set is place n, at byte i, and goes on from each byte behind it.
func (r reader) walk(x api.Rx, n, i int, on func(i int)) {
	switch x.Kind {
	case api.RxSet:
		if i < len(r.w) && class.Has(x.Set, r.w[i]) {
			if i+1 == len(r.w) {
				r.note(n)
			}
			on(i + 1)
		}
	case api.RxCat:
		if len(x.Args) == 0 {
			on(i)
			return
		}
		rest := api.Rx{Kind: api.RxCat, Args: x.Args[1:]}
		r.walk(x.Args[0], n, i, func(j int) { r.walk(rest, n+sets(x.Args[0]), j, on) })
	case api.RxAlt:
		for _, y := range x.Args {
			r.walk(y, n, i, on)
			n += sets(y)
		}
	case api.RxOpt:
		on(i)
		r.walk(x.Args[0], n, i, on)
	case api.RxStar:
		on(i)
		r.again(x, n, i, on)
	case api.RxPlus:
		r.walk(x.Args[0], n, i, func(j int) {
			on(j)
			r.again(x, n, j, on)
		})
	}
}

// again is any number more of what stands under a sign, each of at least a byte.
func (r reader) again(x api.Rx, n, i int, on func(i int)) {
	r.walk(x.Args[0], n, i, func(j int) {
		if j > i {
			on(j)
			r.again(x, n, j, on)
		}
	})
}

func sets(x api.Rx) int {
	if x.Kind == api.RxSet {
		return 1
	}
	n := 0
	for _, y := range x.Args {
		n += sets(y)
	}
	return n
}

// placesAt are the (token, place) that w may end at, from the least on, as a text; and the first token that w is.
func placesAt(l []api.Token, w []byte) (string, int) {
	is, end := map[[2]int]bool{}, -1
	for k, t := range l {
		r := reader{w, func(n int) { is[[2]int{k, n}] = true }}
		r.walk(t.Rx, 0, 0, func(i int) {
			if i == len(w) && end < 0 {
				end = k
			}
		})
	}
	var all [][2]int
	for p := range is {
		all = append(all, p)
	}
	slices.SortFunc(all, func(a, b [2]int) int { return slices.Compare(a[:], b[:]) })
	if len(all) == 0 {
		return "", end
	}
	return fmt.Sprint(all), end
}

// slowMake works the machine of small tokens out by texts, the short ones first: each that leads to places that no other led to is a state.
func slowMake(l []api.Token) api.Dfa {
	least, of := letters(l)
	d := api.Dfa{Class: of}
	first, known := [][]byte{nil}, map[string]int{}
	for n := 0; n < len(first); n++ {
		w := first[n]
		_, end := placesAt(l, w)
		d.Ends = append(d.Ends, end)
		var row []int
		for _, b := range least {
			longer := append(slices.Clone(w), b)
			at, _ := placesAt(l, longer)
			if at == "" {
				row = append(row, -1)
				continue
			}
			if known[at] == 0 {
				known[at] = len(first)
				first = append(first, longer)
			}
			row = append(row, known[at])
		}
		d.Next = append(d.Next, row)
	}
	return d
}

// plainMake works a machine out by place.Of's places; too great: it has more than 60 states.
func plainMake(l []api.Token) (d api.Dfa, great bool) {
	least, of := letters(l)
	d.Class = of
	var places []place.Places
	for _, t := range l {
		p, _ := place.Of(t.Rx)
		places = append(places, p)
	}
	states, known := []map[[2]int]bool{nil}, map[string]int{}
	for n := 0; n < len(states); n++ {
		if n == 60 {
			return api.Dfa{}, true
		}
		var row []int
		for _, b := range least {
			to := map[[2]int]bool{}
			for k, p := range places {
				for m := range p.Sets {
					if class.Has(p.Sets[m], b) && leads(p, k, m, n == 0, states[n]) {
						to[[2]int{k, m}] = true
					}
				}
			}
			name := fmt.Sprint(to)
			if _, is := known[name]; !is && len(to) > 0 {
				known[name] = len(states)
				states = append(states, to)
			}
			if len(to) == 0 {
				row = append(row, -1)
			} else {
				row = append(row, known[name])
			}
		}
		d.Next, d.Ends = append(d.Next, row), append(d.Ends, plainEnd(places, n == 0, states[n]))
	}
	return d, false
}

// leads tells whether place m of token k may stand first, or right behind one of those in state.
func leads(p place.Places, k, m int, start bool, state map[[2]int]bool) bool {
	if start {
		return slices.Contains(p.First, m)
	}
	for q := range p.Sets {
		if state[[2]int{k, q}] && slices.Contains(p.Follow[q], m) {
			return true
		}
	}
	return false
}

func plainEnd(places []place.Places, start bool, state map[[2]int]bool) int {
	for k, p := range places {
		if start && p.Null {
			return k
		}
		if !start && slices.ContainsFunc(p.Last, func(m int) bool { return state[[2]int{k, m}] }) {
			return k
		}
	}
	return -1
}

// plainRun tells which token w is by matching each.
func plainRun(l []api.Token, w []byte) int {
	return slices.IndexFunc(l, func(t api.Token) bool { return regex.In(t.Rx, w) })
}

// plainLongest tries every beginning of w that has a byte.
func plainLongest(l []api.Token, w []byte) (int, int) {
	for n := len(w); n > 0; n-- {
		if k := plainRun(l, w[:n]); k >= 0 {
			return k, n
		}
	}
	return -1, 0
}

// plainMay tells whether d may be, sentence by sentence.
func plainMay(d api.Dfa) bool {
	classes := 0
	for _, c := range d.Class {
		classes = max(classes, int(c)+1)
	}
	if len(d.Next) < 1 || len(d.Next) != len(d.Ends) {
		return false
	}
	for s := range d.Next {
		if len(d.Next[s]) != classes || d.Ends[s] < -1 {
			return false
		}
		for _, n := range d.Next[s] {
			if n < -1 || n >= len(d.Next) {
				return false
			}
		}
	}
	return true
}

// walkRun goes through a machine that may be.
func walkRun(d api.Dfa, w []byte) int {
	s := 0
	for len(w) > 0 && s >= 0 {
		s, w = d.Next[s][d.Class[w[0]]], w[1:]
	}
	if s < 0 {
		return -1
	}
	return d.Ends[s]
}

func walkLongest(d api.Dfa, w []byte) (int, int) {
	for n := len(w); n > 0; n-- {
		if k := walkRun(d, w[:n]); k >= 0 {
			return k, n
		}
	}
	return -1, 0
}

// textsOf is all texts of at most n of these bytes, the short ones first.
func textsOf(letters string, n int) []string {
	all, last := []string{""}, []string{""}
	for range n {
		var longer []string
		for _, w := range last {
			for i := range len(letters) {
				longer = append(longer, w+letters[i:i+1])
			}
		}
		all, last = append(all, longer...), longer
	}
	return all
}

// anyText is the text of an expression that may stand under a kind, of about n nodes; it may be too deep.
func anyText(r *rand.Rand, n, above int) string {
	kind := api.RxSet + r.Intn(6)
	if n < 3 || kind == api.RxSet {
		return []string{"a", "b", "c", "[ab]", "[bc]", "[^a]", ".", "x", `\x00`, `\*`}[r.Intn(10)]
	}
	if kind >= api.RxStar {
		if above >= api.RxStar {
			return anyText(r, n, above)
		}
		return anyText(r, n-1, kind) + "*+?"[kind-api.RxStar:][:1]
	}
	if kind == above {
		return anyText(r, n, above)
	}
	var l []string
	for k := 2 + r.Intn(3); len(l) < k; {
		l = append(l, anyText(r, (n-1)/k, kind))
	}
	s := strings.Join(l, []string{"", "|"}[kind-api.RxCat])
	if above > kind && !(kind == api.RxCat && above == api.RxAlt) {
		s = "(" + s + ")"
	}
	return s
}

// anyWord is a text that a machine can read to its end, of at most n bytes.
func anyWord(r *rand.Rand, d api.Dfa, n int) string {
	w, s := "", 0
	for len(w) < n {
		b := byte(r.Intn(256))
		if r.Intn(2) == 0 {
			b = "abcx*\x00"[r.Intn(6)]
		}
		to := d.Next[s][d.Class[b]]
		if to < 0 {
			if r.Intn(40) == 0 {
				break
			}
			continue
		}
		w, s = w+string([]byte{b}), to
	}
	return w
}

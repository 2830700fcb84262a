package place

import (
	"math/rand"
	"slices"
	"strings"
	"testing"

	"eyot/api"
	"eyot/class"
	"eyot/regex"
)

func wantPlaces(t *testing.T, x api.Rx, want Places) {
	t.Helper()
	if p, e := Of(x); e != api.OK || !same(p, want) || len(p.Follow) != len(p.Sets) {
		t.Errorf("%s: %s (%d); want %s", shown(x), text(p), e, text(want))
	}
}

// P10.1: each kind, and one within another: Sets, First, Last, Follow, Null, a digit a place.
func TestOf(t *testing.T) {
	for s, want := range map[string]string{
		// One set.
		"a": "a 0 0 - no", "[a-c]": "[a-c] 0 0 - no", ".": ". 0 0 - no", `\x00`: `\x00 0 0 - no`, `\xff`: `\xff 0 0 - no`,
		// Several one behind the other.
		"ab": "a,b 0 1 1,- no", "abc": "a,b,c 0 2 1,2,- no", "aaa": "a,a,a 0 2 1,2,- no", "[ab][bc]": "[ab],[bc] 0 1 1,- no",
		// Alternatives.
		"a|b": "a,b 01 01 -,- no", "a|b|c": "a,b,c 012 012 -,-,- no", "a|a": "a,a 01 01 -,- no", "ab|c": "a,b,c 02 12 1,-,- no", "a|bc": "a,b,c 01 02 -,2,- no", "ab|cd": "a,b,c,d 02 13 1,-,3,- no", "a(b|c)d": "a,b,c,d 0 3 12,3,3,- no", "(a|b)(c|d)": "a,b,c,d 01 23 23,23,-,- no",
		// The signs, of one set, of several, of alternatives.
		"a*": "a 0 0 0 null", "a+": "a 0 0 0 no", "a?": "a 0 0 - null",
		"(ab)*": "a,b 0 1 1,0 null", "(ab)+": "a,b 0 1 1,0 no", "(ab)?": "a,b 0 1 1,- null",
		"(a|b)*": "a,b 01 01 01,01 null", "(a|b)+": "a,b 01 01 01,01 no", "(a|b)?": "a,b 01 01 -,- null",
		"(a|bc)*": "a,b,c 01 02 01,2,01 null", "(a|bc)+": "a,b,c 01 02 01,2,01 no", "(ab|c)?": "a,b,c 02 12 1,-,- null",
		// The signs beside others: what matches the empty text ahead, between, behind, everywhere.
		"a*b": "a,b 01 1 01,- no", "a+b": "a,b 0 1 01,- no", "a?b": "a,b 01 1 1,- no", "ab*": "a,b 0 01 1,1 no", "ab+": "a,b 0 1 1,1 no", "ab?": "a,b 0 01 1,- no",
		"a?b?c": "a,b,c 012 2 12,2,- no", "ab?c": "a,b,c 0 2 12,2,- no", "ab?c?d": "a,b,c,d 0 3 123,23,3,- no", "ab?c*": "a,b,c 0 012 12,2,2 no", "a?bc?": "a,b,c 01 12 1,2,- no", "a*bc*d?": "a,b,c,d 01 123 01,23,23,- no",
		"a?b?": "a,b 01 01 1,- null", "a*b*": "a,b 01 01 01,1 null", "a+b+": "a,b 0 1 01,1 no", "a?b?c?": "a,b,c 012 012 12,2,- null", "a*b*c*": "a,b,c 012 012 012,12,2 null", "a(bc)?d": "a,b,c,d 0 3 13,2,3,- no",
		"a?|b": "a,b 01 01 -,- null", "a|b*": "a,b 01 01 -,1 null", "a+|b": "a,b 01 01 0,- no", "(a?|b)c": "a,b,c 012 2 2,2,- no", "c(a*|b)": "c,a,b 0 012 12,1,- no", "(a|b?)(c|d*)": "a,b,c,d 0123 0123 23,23,-,3 null",
		// The signs under one another.
		"(a*b)*": "a,b 01 1 01,01 null", "(a+b)+": "a,b 0 1 01,0 no", "(a?b)?": "a,b 01 1 1,- null", "(ab*)?": "a,b 0 01 1,1 null", "(a?b)*": "a,b 01 1 1,01 null", "(a|b*)+": "a,b 01 01 01,01 null", "(a+|b)?": "a,b 01 01 0,- null", "(a*|b)?": "a,b 01 01 0,- null", "(a?|b)+": "a,b 01 01 01,01 null",
		"((ab)?c)+": "a,b,c 02 2 1,2,02 no", "((ab)*c)?": "a,b,c 02 2 1,02,- null", "((a|b)+c)*": "a,b,c 01 2 012,012,01 null", "(a(bc)?)+": "a,b,c 0 02 01,2,0 no", "(a(b|c)?)*": "a,b,c 0 012 012,0,0 null",
		// Places that are reached in several ways stand once.
		"(a?b?)+": "a,b 01 01 01,01 null", "(a?b?)*": "a,b 01 01 01,01 null", "(a*b*)*": "a,b 01 01 01,01 null", "((ab?)*|c)*": "a,b,c 02 012 012,02,02 null", "((a?b?)+c?)*": "a,b,c 012 012 012,012,012 null", "((a*b*)+|(c*)d*)+": "a,b,c,d 0123 0123 0123,0123,0123,0123 null",
		// From the last places of a starred expression back to its first ones; an option's don't, nor do those of what stands beside.
		"(ab)?c": "a,b,c 02 2 1,2,- no", "(ab)*c": "a,b,c 02 2 1,02,- no", "(ab)+c": "a,b,c 0 2 1,02,- no", "(ab)?(cd)*": "a,b,c,d 02 13 1,2,3,2 null", "a(bc)*d": "a,b,c,d 0 3 13,2,13,- no", "(ab)?|(cd)+": "a,b,c,d 02 13 1,-,3,2 null",
	} {
		x := rx(t, s)
		p, e := Of(x)
		if got := text(p); got != want || e != api.OK {
			t.Errorf("%s: %s (%d); want %s", s, got, e, want)
		}
		wantPlaces(t, x, wayOf(x))
		wantPlaces(t, x, plainOf(x))
	}
}

// P10.1, the example of the chapter.
func TestOfExample(t *testing.T) {
	p, e := Of(rx(t, "(ab)*"))
	want := Places{[]api.Set{class.Of([]byte("a")), class.Of([]byte("b"))}, []int{0}, []int{1}, [][]int{{1}, {0}}, true}
	if !same(p, want) || e != api.OK {
		t.Errorf("%v (%d)", p, e)
	}
}

// P10.1: Sets stand from the left, as they are, whatever stands between and around them.
func TestOfSets(t *testing.T) {
	for s, want := range map[string]string{
		"abcdef": "a b c d e f", "f|e|d|c|b|a": "f e d c b a", "a(b|c)*d": "a b c d", "((a|b)(c|d)?|e+)f": "a b c d e f", "[ab][^a]|.": "[ab] [^a] .", "(z(y(x)*)+)?": "z y x", "aaa|a": "a a a a", `(\x00|[\x80-\xff])+\x0a*`: `\x00 [\x80-\xff] \x0a`,
	} {
		var l []api.Set
		for _, s := range strings.Fields(want) {
			set, _, _ := class.Parse(s)
			l = append(l, set)
		}
		x, e := regex.Parse(s)
		p, e2 := Of(x)
		if !slices.Equal(p.Sets, l) || len(p.Follow) != len(l) || e2 != e {
			t.Errorf("%s: %s (%d)", s, text(p), e2)
		}
	}
	// Of each byte, and of all others.
	for i := range 256 {
		one := class.Of([]byte{byte(i)})
		x := of(api.RxCat, api.Rx{Kind: api.RxSet, Set: one}, api.Rx{Kind: api.RxSet, Set: class.Not(one)})
		wantPlaces(t, x, Places{[]api.Set{one, class.Not(one)}, []int{0}, []int{1}, [][]int{{1}, nil}, false})
	}
}

// P10.1: every expression whose text has at most seven bytes, held against its matches and against its graph.
func TestOfEvery(t *testing.T) {
	n := 0
	for _, s := range textsOf("a|*+?()", 7) {
		x, e := regex.Parse(s)
		if e != api.OK {
			continue
		}
		n++
		wantPlaces(t, x, wayOf(x))
		wantPlaces(t, x, plainOf(x))
	}
	if n < 1700 {
		t.Errorf("%d expressions", n)
	}
}

// P10.1: expressions by chance, small and great, held against their graphs.
func TestOfAny(t *testing.T) {
	r := rand.New(rand.NewSource(101))
	great := 0
	for range 30000 {
		x, e := regex.Parse(anyText(r, 4+r.Intn(60), 0))
		if e != api.OK {
			continue
		}
		wantPlaces(t, x, plainOf(x))
		if nodes(x) > 30 {
			great++
		}
	}
	if great < 500 {
		t.Errorf("%d great ones", great)
	}
}

// What follows: a text matches just if a way through the places spells it: short expressions, all texts of at most four bytes.
func TestSpelledEvery(t *testing.T) {
	words, n := textsOf("abc", 4), 0
	for _, s := range append(textsOf("ab|*+?()", 5), "(a?b?)+", "(a|bc)+", "(a(b|c)?)*", "((a|b)+c)*", "(a*b*)*c", "a?b?c?", "((ab?)*|c)*", "[ab]*c.", "([ab]c?)+", "(ab|[^b]c)*", "(aa|aaa)*", "a(a|ab)(c|bc)", "(a*|b)(b*|c)") {
		x, e := regex.Parse(s)
		if e != api.OK {
			continue
		}
		p, _ := Of(x)
		for _, w := range words {
			n++
			if is := regex.In(x, []byte(w)); spells(p, w) != is {
				t.Errorf("%s, %q: regex.In says %v; %s", s, w, is, text(p))
			}
		}
	}
	if n < 30000 {
		t.Errorf("%d texts", n)
	}
}

// What follows: great expressions and texts of up to 60 bytes: those that a way spells, and others near them.
func TestSpelledAny(t *testing.T) {
	r := rand.New(rand.NewSource(102))
	in, out, long := 0, 0, 0
	for range 20000 {
		x, e := regex.Parse(anyText(r, 4+r.Intn(60), 0))
		if e != api.OK {
			continue
		}
		p, _ := Of(x)
		for range 4 {
			w := anyWord(r, p, r.Intn(50))
			if r.Intn(2) == 0 && len(w) > 0 {
				i := r.Intn(len(w))
				w = w[:i] + []string{"", "a", "c", "\xff"}[r.Intn(4)] + w[i+1:]
			}
			w = w[:min(len(w), api.MaxIsland)]
			is := regex.In(x, []byte(w))
			if spells(p, w) != is {
				t.Errorf("%s, %q: regex.In says %v; %s", shown(x), w, is, text(p))
			}
			switch {
			case !is:
				out++
			case len(w) > 20:
				long++
			default:
				in++
			}
		}
	}
	if in < 10000 || out < 5000 || long < 2000 {
		t.Errorf("%d match, %d more are long, %d don't", in, long, out)
	}
}

// P10.1: the greatest expressions that may be: MaxNodes nodes, MaxDepth deep.
func TestOfGreatest(t *testing.T) {
	var all []int
	for n := range 39 {
		all = append(all, n)
	}
	a := class.Of([]byte("a"))
	row := Places{First: []int{0}, Last: []int{38}}
	choice := Places{First: all, Last: all, Follow: make([][]int, 39)}
	again := Places{First: all[:38], Last: all[:38], Null: true}
	opts := Places{First: all[:19], Last: all[:19], Null: true}
	for n := range 39 {
		row.Sets, choice.Sets = append(row.Sets, a), append(choice.Sets, a)
		row.Follow = append(row.Follow, all[n+1:min(n+2, 39)])
		if n < 38 {
			again.Sets, again.Follow = append(again.Sets, a), append(again.Follow, all[:38])
		}
		if n < 19 {
			opts.Sets, opts.Follow = append(opts.Sets, a), append(opts.Follow, all[:19])
		}
	}
	for s, want := range map[string]Places{
		strings.Repeat("a", 39):                       row,
		strings.Repeat("a|", 38) + "a":                choice,
		"(" + strings.Repeat("a|", 37) + "a)*":        again,
		"(" + strings.Repeat("a?", 19) + ")+":         opts,
		"(" + strings.Repeat("a*|", 18) + "a*" + ")+": opts,
	} {
		x := rx(t, s)
		if nodes(x) != api.MaxNodes {
			t.Errorf("%s has %d nodes", s, nodes(x))
		}
		wantPlaces(t, x, want)
		wantPlaces(t, x, plainOf(x))
	}
	for _, s := range []string{"a(b|c(d|e(f|g(h|i(j|kl)))))", "(((((ab)*c)*d)*e)*f)*g", "(((((a+|b)+|c)+|d)+|e)+|f)+", "(a?(b?(c?(d?(e?f*)?)?)?)?)?"} {
		x := rx(t, s)
		if depth(x) != api.MaxDepth {
			t.Errorf("%s is %d deep", s, depth(x))
		}
		wantPlaces(t, x, plainOf(x))
	}
}

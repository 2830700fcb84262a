package regex

import (
	"math/rand"
	"slices"
	"strings"
	"testing"

	"eyot/api"
)

// wantShown: x is parsed as it was, and no brackets could be left out.
func wantShown(t *testing.T, x api.Rx) {
	t.Helper()
	s := Show(x)
	wantParse(t, s, x)
	for i := range len(s) {
		// Marks within classes have a backslash ahead of them.
		if s[i] != '(' || i > 0 && s[i-1] == '\\' {
			continue
		}
		j := closing(s, i)
		if y, e := Parse(s[:i] + s[i+1:j] + s[j+1:]); e == api.OK && same(x, y) {
			t.Errorf("%s: the brackets at %d need not stand", s, i)
		}
	}
}

// closing tells where the brackets end that begin at i.
func closing(s string, i int) int {
	for open := 0; ; i++ {
		switch s[i] {
		case '\\':
			i++
		case '(':
			open++
		case ')':
			open--
			if open == 0 {
				return i
			}
		}
	}
}

// P9.2: brackets where an RxAlt stands in an RxCat or under a sign, and an RxCat under a sign; nowhere else.
func TestShow(t *testing.T) {
	for want, x := range map[string]api.Rx{
		"a": a, "[a-c]": set("abc"), "[ab]": set("ab"), `\(`: set("("), `[\(-\+]`: set("()*+"), `\x00`: set("\x00"), `\|`: set("|"),
		"ab": cat(a, b), "abc": cat(a, b, c), "a|b": alt(a, b), "a|b|c": alt(a, b, c), "a*": star(a), "a+": plus(a), "a?": opt(a), "[ab]*": star(set("ab")), `\*+`: plus(set("*")),
		"ab|c": alt(cat(a, b), c), "a|bc": alt(a, cat(b, c)), "a*|b": alt(star(a), b), "a|b+|c?": alt(a, plus(b), opt(c)),
		"a*b": cat(star(a), b), "ab?": cat(a, opt(b)), "(a|b)c": cat(alt(a, b), c), "a(b|c)": cat(a, alt(b, c)), "a(b|c)a": cat(a, alt(b, c), a), "(a|b)(b|c)": cat(alt(a, b), alt(b, c)),
		"(a|b)*": star(alt(a, b)), "(a|b)+": plus(alt(a, b)), "(a|b)?": opt(alt(a, b)), "(ab)*": star(cat(a, b)), "(ab)+": plus(cat(a, b)), "(ab)?": opt(cat(a, b)),
		"a(b|c)*(ab)?(a|b)": cat(a, star(alt(b, c)), opt(cat(a, b)), alt(a, b)), "(ab|c)*": star(alt(cat(a, b), c)), "((a|b)c)*": star(cat(alt(a, b), c)), "(a(b|c)|a)?b": cat(opt(alt(cat(a, alt(b, c)), a)), b), "(a*b)+|c": alt(plus(cat(star(a), b)), c), "((ab)*c)?": opt(cat(star(cat(a, b)), c)),
	} {
		if s := Show(x); s != want {
			t.Errorf("Show(%s) = %q; want %q", text(x), s, want)
		}
		wantShown(t, x)
	}
	if s := Show(api.Rx{Kind: api.RxSet, Set: api.Set{1<<64 - 1, 1<<64 - 1, 1<<64 - 1, 1<<64 - 1}}); s != "." {
		t.Errorf("all bytes: %q", s)
	}
}

// P9.2: of what may not be there is no text.
func TestShowNothing(t *testing.T) {
	for _, x := range append(wrongs(), api.Rx{}, cat(times(40, a)...), chain(13, api.RxStar, api.RxCat)) {
		if s := Show(x); s != "" {
			t.Errorf("Show(%s) = %q", text(x), s)
		}
	}
}

// P9.2: every expression of at most six nodes.
func TestShowEvery(t *testing.T) {
	texts := map[string]int{}
	l := everyRx(6, 0)
	for _, x := range l {
		wantShown(t, x)
		texts[Show(x)]++
	}
	if len(texts) != len(l) || len(l) < 1000 {
		t.Errorf("%d texts of %d expressions", len(texts), len(l))
	}
}

// P9.2: at the limits: as many nodes, and as deep, as may be.
func TestShowGreatest(t *testing.T) {
	for _, x := range []api.Rx{cat(times(39, a)...), alt(times(19, star(a))...), chain(12, api.RxCat, api.RxStar), chain(12, api.RxAlt, api.RxCat), chain(12, api.RxPlus, api.RxAlt), chain(12, api.RxOpt, api.RxCat, api.RxStar, api.RxAlt), star(cat(times(38, set("\x00 (|)\xff"))...))} {
		wantShown(t, x)
	}
	if s := Show(chain(12, api.RxAlt, api.RxCat)); s != strings.Repeat("b|b(", 5)+"b|a"+strings.Repeat(")", 5) {
		t.Errorf("shown as %q", s)
	}
}

// P9.2: expressions by chance; and what is parsed is shown and parsed as it was.
func TestShowAny(t *testing.T) {
	r := rand.New(rand.NewSource(93))
	shown := 0
	for range 50000 {
		x := anyRx(r, 45, 13, 0)
		if plainMay(x) == api.OK {
			wantShown(t, x)
			shown++
		}
	}
	if shown < 20000 {
		t.Errorf("only %d are shown", shown)
	}
}

// R3: what is handed in stays as it was, spare room too, of what may be and what may not.
func TestLeavesAlone(t *testing.T) {
	for _, x := range append(wrongs(), a, cat(a, b), cat(a, star(alt(b, c))), plus(cat(a, opt(b))), cat(times(40, a)...)) {
		x = roomy(x)
		before, w := clone(x), []byte("abcabc")
		May(x)
		Show(x)
		Null(x)
		In(x, w)
		In(x, w[:3])
		if !same(x, before) || string(w) != "abcabc" {
			t.Errorf("%s is now %s; the text %q", text(before), text(x), w)
		}
		wantRoom(t, x)
	}
}

// roomy is x with spare room behind each list, marked.
func roomy(x api.Rx) api.Rx {
	l := make([]api.Rx, len(x.Args), len(x.Args)+3)
	for i, y := range x.Args {
		l[i] = roomy(y)
	}
	for i := range spare(l) {
		spare(l)[i].Kind = -9
	}
	x.Args = l
	return x
}

func spare(l []api.Rx) []api.Rx { return l[len(l):cap(l)] }

func wantRoom(t *testing.T, x api.Rx) {
	t.Helper()
	for _, y := range x.Args {
		wantRoom(t, y)
	}
	if slices.ContainsFunc(spare(x.Args), func(y api.Rx) bool { return y.Kind != -9 }) {
		t.Errorf("the spare room of %s has changed", text(x))
	}
}

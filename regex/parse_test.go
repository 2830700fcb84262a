package regex

import (
	"math/rand"
	"strings"
	"testing"

	"eyot/api"
	"eyot/class"
)

func wantParse(t *testing.T, s string, want api.Rx) {
	t.Helper()
	if x, e := Parse(s); !same(x, want) || e != api.OK {
		t.Errorf("Parse(%.60q) = %s, %d; want %s", s, text(x), e, text(want))
	}
}

// wantNoParse: beside an error there is nothing.
func wantNoParse(t *testing.T, s string, want api.Errno) {
	t.Helper()
	if x, e := Parse(s); !same(x, api.Rx{}) || x.Args != nil || e != want {
		t.Errorf("Parse(%.60q) = %s, %d; want nothing, %d", s, text(x), e, want)
	}
}

// checkParse holds s against the plain machine.
func checkParse(t *testing.T, s string) (is bool) {
	t.Helper()
	want, e := plainParse(s)
	if e == api.OK {
		wantParse(t, s, want)
	} else {
		wantNoParse(t, s, e)
	}
	return e == api.OK
}

// P9.1: every form: one class, several, with `|`, with each sign, with brackets, brackets in brackets, brackets that turn nothing.
func TestParse(t *testing.T) {
	for s, want := range map[string]api.Rx{
		"a": a, "[abc]": set("abc"), "[a-c]": set("abc"), `\*`: set("*"), `\x41`: set("A"), `\|`: set("|"), `[\(\)]`: set("()"), `\(`: set("("), `\)`: set(")"), `[\*\+\?]`: set("*+?"),
		"ab": cat(a, b), "abc": cat(a, b, c), "aa": cat(a, a), "[ab]c": cat(set("ab"), c), `\x41a`: cat(set("A"), a), `a\*`: cat(a, set("*")), `[a][b]`: cat(a, b),
		"a|b": alt(a, b), "a|b|c": alt(a, b, c), "a|a": alt(a, a), "ab|c": alt(cat(a, b), c), "a|bc": alt(a, cat(b, c)), "ab|bc|c": alt(cat(a, b), cat(b, c), c),
		"a*": star(a), "a+": plus(a), "a?": opt(a), "[ab]*": star(set("ab")), `\*+`: plus(set("*")), `\x00?`: opt(set("\x00")),
		"a*b": cat(star(a), b), "ab*": cat(a, star(b)), "a+b?": cat(plus(a), opt(b)), "a*|b": alt(star(a), b), "a|b*": alt(a, star(b)), "a?b|c+": alt(cat(opt(a), b), plus(c)), "a*a*": cat(star(a), star(a)),
		"(a)": a, "((a))": a, "(((a)))": a, "(ab)": cat(a, b), "(a|b)": alt(a, b), "(a*)": star(a), "((a|b))": alt(a, b), "(a)(b)": cat(a, b), "(a)|(b)": alt(a, b), "(a)*": star(a), "((a)+)": plus(a), "(a*)b": cat(star(a), b), "(a?)|b": alt(opt(a), b), "(ab)|c": alt(cat(a, b), c), "a|(bc)": alt(a, cat(b, c)), "((a)b)": cat(a, b), "((a)|b)": alt(a, b),
		"a(b|c)*": cat(a, star(alt(b, c))), "(ab)+": plus(cat(a, b)), "(a|b)?": opt(alt(a, b)), "(a|b)c": cat(alt(a, b), c), "a(b|c)": cat(a, alt(b, c)), "(a|b)(b|c)": cat(alt(a, b), alt(b, c)),
		"(a|(bc)*)+": plus(alt(a, star(cat(b, c)))), "((ab)*c)?": opt(cat(star(cat(a, b)), c)), "((a|b)c|a)*": star(alt(cat(alt(a, b), c), a)), "(a(b(c|a)*)+)?": opt(cat(a, plus(cat(b, star(alt(c, a)))))),
	} {
		wantParse(t, s, want)
		wantParse(t, "("+s+")", want)
	}
	all, _, _ := class.Parse(".")
	wantParse(t, ".*", star(api.Rx{Kind: api.RxSet, Set: all}))
}

// P9.1: what is none.
func TestParseNone(t *testing.T) {
	for _, s := range []string{
		"", "|", "a|", "|a", "a||b", "||", "a|b|", "|a|b", "()", "(|)", "(a|)", "(|a)", "(a||b)", "a()", "()a", "a|()", "()*", "(())",
		"*", "+", "?", "*a", "|*", "a|*", "(*)", "(*a)", "a(*)", "a|+b", "(?",
		"a**", "a*+", "a*?", "a++", "a+*", "a+?", "a??", "a?*", "a?+", "(a)**", "a*|b**", "(a**)", "ab?*c",
		"(", ")", "(a", "a)", "(a))", "((a)", "a(", "a(b", ")a", ")(", "a)(b", "(a)b)", "(a|b", "a|b)", "(a*", "a*)",
		"a b", " a", "a ", "-", "a-b", "^", "^a", "]", "a]", "[", "[]", "[a", "[b-a]", "a[b-a]", "[^]", "a|[", `\`, `a\`, `\q`, `\x`, `\x4`, `a\x4g`, "\n", "a\x00", "\xff", "\u00e9",
	} {
		wantNoParse(t, s, api.ErrForm)
	}
}

// P9.1: every byte alone, behind a class, and in brackets.
func TestParseBytes(t *testing.T) {
	for i := range 256 {
		s := string([]byte{byte(i)})
		for _, x := range []string{s, "a" + s, s + "a", "(" + s + ")", "a|" + s, s + "*", `\` + s} {
			checkParse(t, x)
		}
	}
}

// P9.1: what the grammar lets stand and May doesn't, by the two kinds.
func TestParseTold(t *testing.T) {
	for _, s := range []string{
		"(ab)c", "a(bc)", "((ab)c)", "(ab)(bc)", "((ab))c", "a|(bc)a", "(a(bc))*", "a(b(ca))",
		"(a|b)|c", "a|(b|c)", "((a|b))|c", "(a|b)|(b|c)", "a((a|b)|c)", "(a|(b|c))*",
		"(a*)*", "(a*)+", "(a*)?", "(a+)*", "(a+)+", "(a+)?", "(a?)*", "(a?)+", "(a?)?", "((a*))*", "((a)*)*", "((ab)*)+", "((a|b)+)?", "a(b*)*", "a|(b*)*", "(a(b*)*)?",
	} {
		wantNoParse(t, s, api.ErrForm)
		wantNoParse(t, "("+s+")", api.ErrForm)
	}
}

// P9.1: MaxNodes nodes, and one more.
func TestParseNodes(t *testing.T) {
	wantParse(t, strings.Repeat("a", 39), cat(times(39, a)...))
	wantParse(t, strings.Repeat("a|", 38)+"a", alt(times(39, a)...))
	wantParse(t, strings.Repeat("a*", 19)+"b", cat(append(times(19, star(a)), b)...))
	wantParse(t, "("+strings.Repeat("ab|", 12)+"a)?", opt(alt(append(times(12, cat(a, b)), a)...)))
	for _, s := range []string{strings.Repeat("a", 40), strings.Repeat("a|", 39) + "a", strings.Repeat("a*", 19) + "bb", strings.Repeat("a*", 20), "(" + strings.Repeat("a", 39) + ")*", strings.Repeat("a", 1<<16), strings.Repeat("a|", 1<<16) + "b", strings.Repeat("(a)", 1<<16)} {
		wantNoParse(t, s, api.ErrCap)
	}
}

// P9.1: MaxDepth, and one deeper, in few brackets.
func TestParseDepth(t *testing.T) {
	wantParse(t, strings.Repeat("b(", 5)+"ba"+strings.Repeat(")*", 5), chain(12, api.RxCat, api.RxStar))
	wantNoParse(t, strings.Repeat("b(", 5)+"ba?"+strings.Repeat(")*", 5), api.ErrCap)
	wantNoParse(t, strings.Repeat("b(", 6)+"a"+strings.Repeat(")*", 6), api.ErrCap)
	wantNoParse(t, "("+strings.Repeat("b(", 5)+"ba"+strings.Repeat(")*", 5)+")+", api.ErrCap)
}

// P9.1: ErrForm anywhere, ahead or behind, goes ahead of ErrCap.
func TestParseBoth(t *testing.T) {
	many := strings.Repeat("a", 100)
	for _, bad := range []string{"(a*)*", "(ab)", "((a|b)|c)", "(a|(b(b*)*))", "()", "[", "a**", "||"} {
		wantNoParse(t, bad+many, api.ErrForm)
		wantNoParse(t, many+bad, api.ErrForm)
		wantNoParse(t, many+bad+many, api.ErrForm)
		wantNoParse(t, "("+strings.Repeat("b(", 6)+bad+"a"+strings.Repeat(")*", 6)+")", api.ErrForm)
	}
}

// P9.1: brackets within MaxDepth others, and within one more: closed, not closed, ahead of and behind what is none.
func TestParseBrackets(t *testing.T) {
	in := func(n int, s string) string { return strings.Repeat("(", n) + s + strings.Repeat(")", n) }
	wantParse(t, in(12, "a"), a)
	wantParse(t, in(13, "a"), a)
	wantParse(t, in(13, "a|b"), alt(a, b))
	wantParse(t, in(13, "a")+in(13, "b"), cat(a, b))
	wantParse(t, in(12, in(1, "a")+in(1, "b")), cat(a, b))
	wantParse(t, strings.Repeat("(a)", 39), cat(times(39, a)...))
	open := strings.Repeat("(", 13)
	for _, s := range []string{open, open + "a", open + "a))", in(13, ""), in(13, "*"), in(13, "a")[1:], in(13, "a") + ")", in(13, "a") + "|", in(13, "[")} {
		wantNoParse(t, s, api.ErrForm)
	}
	for _, s := range []string{in(14, "a"), open + "(", open + "(a", open + "()", open + "(*", open + "([", open + "a(", in(14, "a") + ")", in(14, ""), in(14, "a") + "|", in(40, "a"), "a" + open + "(", "a|" + open + "(", in(13, "b") + open + "(", in(13, "b|"+"(a)"), strings.Repeat("(a|", 14), strings.Repeat("(a*b", 14), strings.Repeat("(", 1<<20), in(1<<16, "a")} {
		wantNoParse(t, s, api.ErrCap)
	}
	// The reading stops there, ahead of what May would say.
	for _, s := range []string{"(a*)*", "(ab)c", "a|(b|c)", strings.Repeat("a", 100)} {
		wantNoParse(t, s+open+"(", api.ErrCap)
		wantNoParse(t, s+in(14, "a"), api.ErrCap)
	}
	// What is none stands ahead of them.
	for _, s := range []string{"|", "*", ")", "a)", "a||", "a**", "()", "(a|)", "[b-a]", "[", " ", "(a))"} {
		wantNoParse(t, s+open+"(", api.ErrForm)
		wantNoParse(t, s+in(14, "a"), api.ErrForm)
		wantNoParse(t, "("+s+open, api.ErrForm)
	}
}

// P9.1: every text of at most seven of these bytes.
func TestParseShortTexts(t *testing.T) {
	const letters = "ab|*+()"
	texts, found := []string{""}, 0
	for n := range 8 {
		var longer []string
		for _, s := range texts {
			if checkParse(t, s) {
				found++
			}
			for i := range len(letters) {
				if n < 7 {
					longer = append(longer, s+letters[i:i+1])
				}
			}
		}
		texts = longer
	}
	if found < 10000 {
		t.Errorf("only %d of them are expressions", found)
	}
}

// P9.1: long texts out of pieces of expressions.
func TestParseLongTexts(t *testing.T) {
	r := rand.New(rand.NewSource(9))
	pieces := []string{"a", "b", "c", "ab", "a|", "|", "*", "+", "?", "(", "(", ")", ")", ")*", "[a-c]", `\x0a`, `\(`, ".", "(a", "b)", "(((", ")))", "(((((((", ")))))))", "[", "^"}
	found := 0
	for range 300000 {
		s := ""
		for n := r.Intn(12); n >= 0; n-- {
			s += pieces[r.Intn(len(pieces)-r.Intn(3))]
		}
		if checkParse(t, s) {
			found++
		}
		// Closed by as many as are open, so that more of them are expressions.
		if n := strings.Count(s, "(") - strings.Count(s, ")"); n > 0 && checkParse(t, s+strings.Repeat(")", n)) {
			found++
		}
	}
	if found < 20000 {
		t.Errorf("only %d of them are expressions", found)
	}
}

// P9.1: expressions with brackets round parts that need none.
func TestParseMoreBrackets(t *testing.T) {
	r := rand.New(rand.NewSource(91))
	for range 20000 {
		x := anyRx(r, 40, 6, 0)
		if s := bracketed(r, x); strings.Count(s, "((((") == 0 {
			wantParse(t, s, x)
		}
	}
}

// bracketed is a text of x with brackets wherever they may have to stand, and by chance elsewhere.
func bracketed(r *rand.Rand, x api.Rx) string {
	var l []string
	for _, y := range x.Args {
		l = append(l, bracketed(r, y))
	}
	s := ""
	switch x.Kind {
	case api.RxSet:
		s = class.Show(x.Set)
	case api.RxCat:
		s = strings.Join(l, "")
	case api.RxAlt:
		s = strings.Join(l, "|")
	default:
		s = l[0] + string("*+?"[x.Kind-api.RxStar])
	}
	if x.Kind == api.RxCat || x.Kind == api.RxAlt || r.Intn(3) == 0 {
		s = "(" + s + ")"
	}
	return s
}

// R1: texts that are long, in every form that may make the reader go on, or deep.
func TestParseEnds(t *testing.T) {
	for _, s := range []string{"a", "a|", "a*", "(a)", "(", ")", "|", "*", "[", "[a", `\`, `\x00`, "a(", "(a|", "()", "a)", "(a*)*", "\x00", "\xff"} {
		for _, n := range []int{1, 13, 14, 40, 1 << 16} {
			checkParse(t, strings.Repeat(s, n))
			checkParse(t, strings.Repeat(s, n)+"a")
		}
	}
}

// R3: what Parse tells is new memory, and no two lists of it share any, their spare room neither.
func TestParseNewMemory(t *testing.T) {
	for _, s := range []string{"a", "ab", "a*", "a|b", "a(b|c)*", "(ab|bc|ca)+(a?b?c?)*", "(a|bc)(b|ca)(c|ab)a*b*"} {
		x, _ := Parse(s)
		y, _ := Parse(s)
		want := clone(x)
		var spoil func(x api.Rx)
		spoil = func(x api.Rx) {
			l := x.Args[:cap(x.Args)]
			for i := range l {
				if i < len(x.Args) {
					spoil(l[i])
				}
				l[i] = api.Rx{Kind: -7}
			}
		}
		spoil(y)
		if !same(x, want) {
			t.Errorf("%s: now %s", s, text(x))
		}
		wantParse(t, s, want)
		wantOwnLists(t, s)
	}
}

// wantOwnLists: of what s is parsed as, each list is filled to its room in turn, and no other is changed.
func wantOwnLists(t *testing.T, s string) {
	t.Helper()
	for i := 0; ; i++ {
		x, _ := Parse(s)
		var lists []*api.Rx
		var gather func(x *api.Rx)
		gather = func(x *api.Rx) {
			if len(x.Args) > 0 {
				lists = append(lists, x)
			}
			for j := range x.Args {
				gather(&x.Args[j])
			}
		}
		gather(&x)
		if i >= len(lists) {
			return
		}
		want := clone(x)
		more := lists[i].Args
		for len(more) < cap(more) {
			more = append(more, api.Rx{Kind: -7})
		}
		if !same(x, want) {
			t.Errorf("%s: list %d shares its room: %s", s, i, text(x))
		}
	}
}

// R4: the same again, whatever was asked between.
func TestParseAgain(t *testing.T) {
	for range 3 {
		wantParse(t, "a(b|c)*", cat(a, star(alt(b, c))))
		wantNoParse(t, "a(b|c)**", api.ErrForm)
		wantNoParse(t, strings.Repeat("(", 14), api.ErrCap)
		wantParse(t, "(a)", a)
	}
}

func FuzzParse(f *testing.F) {
	for _, s := range []string{"", "a", "a(b|c)*", `[a-c]+\x0a?`, "((a*))*", "a|", strings.Repeat("(", 14), strings.Repeat("a", 40)} {
		f.Add(s)
	}
	f.Fuzz(func(t *testing.T, s string) { checkParse(t, s) })
}

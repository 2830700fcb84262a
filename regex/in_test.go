package regex

import (
	"math/rand"
	"regexp"
	"strings"
	"testing"

	"eyot/api"
)

func wantIn(t *testing.T, x api.Rx, w string, want bool) {
	t.Helper()
	if In(x, []byte(w)) != want {
		t.Errorf("In(%s, %q) = %v", Show(x), w, !want)
	}
	if w == "" && (Null(x) != want || In(x, nil) != want) {
		t.Errorf("Null(%s) = %v; of nil %v; want %v", Show(x), Null(x), In(x, nil), want)
	}
}

// wordsOf is all texts of at most n of these bytes.
func wordsOf(letters string, n int) []string {
	all, last := []string{""}, []string{""}
	for range n {
		var longer []string
		for _, w := range last {
			for i := range len(letters) {
				longer = append(longer, w+letters[i:i+1])
			}
		}
		all, last = append(all, longer...), longer
	}
	return all
}

// P9.2: each kind: what matches, of all texts of at most three bytes.
func TestIn(t *testing.T) {
	for s, want := range map[string]string{
		"a": "a", "[ab]": "a b", "ab": "ab", "abc": "abc", "[ab][bc]": "ab ac bb bc", "a|b": "a b", "a|b|c": "a b c", "ab|c": "ab c", "a|a": "a", "a|ab|abc": "a ab abc",
		"a*": "- a aa aaa", "a+": "a aa aaa", "a?": "- a", "(ab)*": "- ab", "(ab)+": "ab", "(ab)?": "- ab", "(a|bc)*": "- a aa aaa bc abc bca", "(aa)*": "- aa", "(aa|aaa)+": "aa aaa",
		"a*b": "b ab aab", "ab*": "a ab abb", "a?b?c?": "- a b c ab ac bc abc", "a+b?": "a aa aaa ab aab", "a*a": "a aa aaa", "a*a*": "- a aa aaa", "a?a?": "- a aa", "a+a+": "aa aaa", "a?aa": "aa aaa", "(a|ab)(c|bc)": "ac abc", "(a|ab)(c|b)": "ac ab abc abb",
		"(a?b?)*c": "c ac bc aac abc bac bbc", "(a?)b": "b ab", "(a*|b)c": "c ac aac bc", "(a?b)+": "b ab bb abb bab bbb",
		"(a?b?)+": "- a b aa ab ba bb aaa aab aba abb baa bab bba bbb", "(a*b?)?": "- a b aa ab aaa aab", "(a|b*)*": "- a b aa ab ba bb aaa aab aba abb baa bab bba bbb", "(a*b*)+c?": "- a b c aa ab ac ba bb bc aaa aab aac aba abb abc baa bab bac bba bbb bbc", "(a*|bb)+": "- a aa aaa bb abb bba",
	} {
		x, e := Parse(s)
		if e != api.OK {
			t.Errorf("%s: %d", s, e)
			continue
		}
		in := map[string]bool{}
		for _, w := range strings.Split(want, " ") {
			in[strings.Trim(w, "-")] = true
		}
		for _, w := range wordsOf("abc", 3) {
			wantIn(t, x, w, in[w])
		}
	}
}

// P9.2: an expression of one byte, or of all others, of every byte, held against every byte.
func TestInBytes(t *testing.T) {
	for i := range 256 {
		one := set(string([]byte{byte(i)}))
		others := one
		for j := range others.Set {
			others.Set[j] = ^others.Set[j]
		}
		for j := range 256 {
			w := string([]byte{byte(j)})
			wantIn(t, one, w, i == j)
			wantIn(t, others, w, i != j)
			wantIn(t, cat(one, star(others)), w+w, false)
			wantIn(t, alt(one, others), w, true)
		}
	}
}

// P9.2: Null of each kind.
func TestNull(t *testing.T) {
	for s, want := range map[string]bool{
		"a": false, ".": false, "ab": false, "a|b": false, "a*": true, "a+": false, "a?": true, "a*b": false, "ab*": false, "a*b*": true, "a?b?c?": true, "a?b?c": false,
		"a*|b": true, "a|b?": true, "a|b+": false, "(ab)*": true, "(ab)+": false, "(ab)?": true, "(a*b*)+": true, "(a*b)+": false, "(a*|b)+": true, "(a|b)+": false, "a(b|c)*": false, "(a|b*)(b|c?)": true, "(a|b*)(b|c)": false, "((a?b?)+c?)+": true, "((a?b?)+c)+": false,
	} {
		x, e := Parse(s)
		if e != api.OK || Null(x) != want || In(x, nil) != want || In(x, []byte{}) != want {
			t.Errorf("Null(%s) = %v (%d)", s, Null(x), e)
		}
	}
}

// P9.2: every expression of at most five nodes, on every text of at most four bytes.
func TestInEvery(t *testing.T) {
	words := wordsOf("abc", 4)
	for _, x := range everyRx(5, 0) {
		for _, w := range words {
			wantIn(t, x, w, plainMatch(x, w))
		}
	}
}

// P9.2: expressions by chance, on texts that they could have made, and others near them.
func TestInAny(t *testing.T) {
	r := rand.New(rand.NewSource(94))
	in, out := 0, 0
	for range 30000 {
		x := anyRx(r, 16, 7, 0)
		for range 6 {
			w := anyWord(r, x)
			if r.Intn(2) == 0 && len(w) > 0 {
				i := r.Intn(len(w))
				w = w[:i] + []string{"", "a", "c", "\xff"}[r.Intn(4)] + w[i+1:]
			}
			if len(w) > 8 {
				continue
			}
			want := plainMatch(x, w)
			wantIn(t, x, w, want)
			if want {
				in++
			} else {
				out++
			}
		}
	}
	if in < 20000 || out < 10000 {
		t.Errorf("%d match, %d don't", in, out)
	}
}

// anyWord is a text that x matches.
func anyWord(r *rand.Rand, x api.Rx) string {
	n := 1
	switch x.Kind {
	case api.RxSet:
		for {
			if i := r.Intn(256); x.Set[i/64]>>(i%64)%2 == 1 {
				return string([]byte{byte(i)})
			}
		}
	case api.RxAlt:
		return anyWord(r, x.Args[r.Intn(len(x.Args))])
	case api.RxStar:
		n = r.Intn(4)
	case api.RxPlus:
		n = 1 + r.Intn(3)
	case api.RxOpt:
		n = r.Intn(2)
	}
	w := ""
	for range n {
		for _, y := range x.Args {
			w += anyWord(r, y)
		}
	}
	return w
}

// P9.2: great expressions and texts of up to 60 bytes, held against the library's regular expressions.
func TestInLong(t *testing.T) {
	r := rand.New(rand.NewSource(95))
	in, long := 0, 0
	for range 20000 {
		x := anyRx(r, 45, 12, 0)
		if plainMay(x) != api.OK || strings.Contains(Show(x), `\x`) {
			continue
		}
		want := regexp.MustCompile(`\A` + pattern(x) + `\z`)
		for range 5 {
			w := anyWord(r, x)
			for len(w) < 30 && r.Intn(3) > 0 {
				w += anyWord(r, x)
			}
			w = w[:min(len(w), 60)]
			is := want.MatchString(w)
			wantIn(t, x, w, is)
			if is {
				in++
			}
			if is && len(w) > 20 {
				long++
			}
		}
	}
	if in < 10000 || long < 300 {
		t.Errorf("%d match, %d of them long", in, long)
	}
}

// P9.2: 60 bytes; those at which a match ends last; texts that match in more ways than could be tried.
func TestInLongest(t *testing.T) {
	for _, n := range []int{57, 58, 59, 60} {
		as := strings.Repeat("a", n)
		for s, want := range map[string]bool{
			"a*": true, "a+": true, "(aa)*": n%2 == 0, "(aaa)+": n%3 == 0, "(a|aa)*": true, "(aa|aaa)*": true, "(a*b?)*": true, "(a*a*a*)+": true, "((a|aa)+(a?|b)*)*": true, "(a?b?)+": true, "a?a*a?a+": true,
			"((a|aa)+(a?|b)*)*c": false, "(a*a*a*)+b": false, "b*": false, "a*b": false, "[^a]*": false, ".*": true, ".*a": true, "(a*.)*": true,
		} {
			x, e := Parse(s)
			if e != api.OK {
				t.Fatalf("%s: %d", s, e)
			}
			wantIn(t, x, as, want)
		}
		x, _ := Parse("a*b")
		wantIn(t, x, as[1:]+"b", true)
		wantIn(t, x, as[2:]+"bb", false)
		wantIn(t, x, as[2:]+"ba", false)
		y, _ := Parse("(a+b)*")
		wantIn(t, y, strings.Repeat("ab", n/2), true)
		wantIn(t, y, strings.Repeat("ab", n/2)[1:], false)
	}
	x := cat(times(39, a)...)
	wantIn(t, x, strings.Repeat("a", 39), true)
	wantIn(t, x, strings.Repeat("a", 38), false)
	wantIn(t, x, strings.Repeat("a", 40), false)
}

// P9.2: a text of more than 60 bytes is not what the chapter speaks of: no.
func TestInTooLong(t *testing.T) {
	x, _ := Parse("a*")
	wantIn(t, x, strings.Repeat("a", 60), true)
	for _, n := range []int{61, 62, 63, 64, 65, 127, 128, 1 << 20} {
		wantIn(t, x, strings.Repeat("a", n), false)
	}
}

// P9.2, R1: what may not be matches nothing, not even the empty text.
func TestInOfNone(t *testing.T) {
	for _, x := range append(wrongs(), api.Rx{}, alt(times(40, star(a))...), chain(13, api.RxStar, api.RxCat), chain(13, api.RxCat, api.RxStar)) {
		if Null(x) {
			t.Errorf("Null(%s)", text(x))
		}
		for _, w := range []string{"", "a", "ab", "aa", strings.Repeat("a", 60)} {
			if In(x, []byte(w)) {
				t.Errorf("In(%s, %q)", text(x), w)
			}
		}
	}
}

// R4: the same again, whatever was asked between.
func TestInAgain(t *testing.T) {
	x, y := cat(a, star(alt(b, c))), star(cat(a, b))
	for range 3 {
		wantIn(t, x, "abcb", true)
		wantIn(t, y, "abcb", false)
		wantIn(t, y, "abab", true)
		wantIn(t, x, "abab", false)
		wantIn(t, api.Rx{}, "", false)
	}
}

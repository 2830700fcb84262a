package dfa

import (
	"math/rand"
	"slices"
	"strings"
	"testing"

	"eyot/api"
	"eyot/class"
)

func wantMachine(t *testing.T, l []api.Token, want api.Dfa) {
	t.Helper()
	if d, e := Make(l); e != api.OK || !same(d, want) || !May(d) {
		t.Errorf("%s: %s (%d); want %s", shown(l), text(d), e, text(want))
	}
}

// P11.1: the classes, and of each state the next ones and which token ends there, a sign a number.
func TestMake(t *testing.T) {
	for s, want := range map[string]string{
		// No token, one, several.
		"": ". -:-", "a": "[\\x00-`b-\\xff],a -1:- --:0", ".": ". 1:- -:0", "[ab]": "[\\x00-`c-\\xff],[ab] -1:- --:0",
		"ab": "[\\x00-`c-\\xff],a,b -1-:- --2:- ---:0", "ba": "[\\x00-`c-\\xff],a,b --1:- -2-:- ---:0",
		"a b": "[\\x00-`c-\\xff],a,b -12:- ---:0 ---:1", "b a": "[\\x00-`c-\\xff],a,b -12:- ---:1 ---:0",
		// The states stand as they are found: of each class by class, and those behind the first one ahead of those behind the second.
		"ab|cd": "[\\x00-`e-\\xff],a,b,c,d -1-2-:- --3--:- ----4:- -----:0 -----:0", "cd|ab": "[\\x00-`e-\\xff],a,b,c,d -1-2-:- --3--:- ----4:- -----:0 -----:0",
		"cba|ab": "[\\x00-`d-\\xff],a,b,c -1-2:- --3-:- --4-:- ----:0 -5--:- ----:0",
		// Machines with ways back.
		"a*": "[\\x00-`b-\\xff],a -1:0 -1:0", "a+": "[\\x00-`b-\\xff],a -1:- -1:0", "a?": "[\\x00-`b-\\xff],a -1:0 --:0", "(ab)*": "[\\x00-`c-\\xff],a,b -1-:0 --2:- -1-:0",
		"a*b": "[\\x00-`c-\\xff],a,b -12:- -12:- ---:0", "(a|b)*a": "[\\x00-`c-\\xff],a,b -12:- -12:0 -12:-", "[ab]*a[ab]": "[\\x00-`c-\\xff],a,b -12:- -34:- -12:- -34:0 -12:0",
		// Places of one token, and of several, are held apart.
		"aa": "[\\x00-`b-\\xff],a -1:- -2:- --:0", "a aa": "[\\x00-`b-\\xff],a -1:- -2:0 --:1", "ab a": "[\\x00-`c-\\xff],a,b -1-:- --2:1 ---:0", "ab cb": "[\\x00-`d-\\xff],a,b,c -1-2:- --3-:- --4-:- ----:0 ----:1",
		// Which token: the first, of all that end; that match the empty text.
		"a a": "[\\x00-`b-\\xff],a -1:- --:0", "a [ab]": "[\\x00-`c-\\xff],a,b -12:- ---:0 ---:1", "[ab] a": "[\\x00-`c-\\xff],a,b -12:- ---:0 ---:0", "if [a-z]+ i": "[\\x00-`{-\\xff],[a-eghj-z],f,i -112:- -111:1 -131:1 -111:0",
		"a b* c?": "[\\x00-`d-\\xff],a,b,c -123:1 ----:0 --2-:1 ----:2", "c? b*": "[\\x00-ad-\\xff],b,c -12:0 -1-:1 ---:0",
		// Bytes in Sets that overlap.
		"[a-c] [b-d]": "[\\x00-`e-\\xff],a,[bc],d -123:- ----:0 ----:0 ----:1", "[^a] [^b]": "[\\x00-`c-\\xff],a,b 123:- ---:0 ---:1 ---:0", ".a": "[\\x00-`b-\\xff],a 11:- -2:- --:0",
		`\x00 \xff`: `\x00,[\x01-\xfe],\xff 1-2:- ---:0 ---:1`, `\xff|a`: "[\\x00-`b-\\xfe],a,\\xff -12:- ---:0 ---:0", `[a\xff]`: "[\\x00-`b-\\xfe],[a\\xff] -1:- --:0",
	} {
		l := tokens(t, strings.Fields(s)...)
		d, e := Make(l)
		if got := text(d); got != want || e != api.OK || !May(d) {
			t.Errorf("%s: %s (%d); want %s", s, got, e, want)
		}
		wantMachine(t, l, slowMake(l))
		plain, _ := plainMake(l)
		wantMachine(t, l, plain)
	}
}

// P11.1: no tokens, nil or an empty list: one state, of one class.
func TestMakeOfNone(t *testing.T) {
	for _, l := range [][]api.Token{nil, {}, make([]api.Token, 0, 5)} {
		d, e := Make(l)
		if e != api.OK || d.Class != [256]uint8{} || len(d.Next) != 1 || !slices.Equal(d.Next[0], []int{-1}) || !slices.Equal(d.Ends, []int{-1}) {
			t.Errorf("%v (%d)", d, e)
		}
	}
}

// P11.1: tokens that are alike, as often as they stand: the first one ends.
func TestMakeOfAlike(t *testing.T) {
	for _, s := range []string{"a", "ab", "a*", "(a|b)+c?"} {
		one, _ := Make(tokens(t, s))
		for _, n := range []int{2, 3, 10, 11, 1000} {
			l := tokens(t, slices.Repeat([]string{s}, n)...)
			wantMachine(t, l, one)
			ahead := append(tokens(t, "x"), l...)
			d, _ := Make(ahead)
			if Run(d, []byte("x")) != 0 || slices.Max(d.Ends) != 1 {
				t.Errorf("%d of %s: %s", n, s, text(d))
			}
		}
	}
}

// P11.1: neither a token's name nor whether it is trivia says anything.
func TestMakeOfNames(t *testing.T) {
	l := tokens(t, "if", "[a-z]+", "\\x20+")
	want, _ := Make(l)
	for i := range l {
		l[i].Name, l[i].Trivia = "same", true
	}
	wantMachine(t, l, want)
}

// P11.1: the classes: bytes of the same Sets of all tokens, by their least bytes, whichever token comes first.
func TestMakeClasses(t *testing.T) {
	for s, want := range map[string]string{
		"a": "[\\x00-`b-\\xff] a", "z a": "[\\x00-`b-y{-\\xff] a z", "[az]": "[\\x00-`b-y{-\\xff] [az]", "a|z": "[\\x00-`b-y{-\\xff] a z", ".": ".", "[^z]": "[\\x00-y{-\\xff] z",
		"[az] [ab]": "[\\x00-`c-y{-\\xff] a b z", "[az][ab]|[zb]": "[\\x00-`c-y{-\\xff] a b z", "[zy] x": "[\\x00-w{-\\xff] x [yz]", "zy x": "[\\x00-w{-\\xff] x y z",
		`\xff [\x00\xfe]`: `[\x00\xfe] [\x01-\xfd] \xff`, `[\x01-\xff] b`: "\\x00 [\\x01-ac-\\xff] b", "[m-z] [a-p]": "[\\x00-`{-\\xff] [a-l] [m-p] [q-z]",
	} {
		d, e := Make(tokens(t, strings.Fields(s)...))
		var l []api.Set
		for _, c := range strings.Fields(want) {
			set, n, _ := class.Parse(c)
			if n == 0 {
				t.Fatalf("%s is no class", c)
			}
			l = append(l, set)
		}
		for b := range 256 {
			if k := slices.IndexFunc(l, func(s api.Set) bool { return class.Has(s, byte(b)) }); int(d.Class[b]) != k {
				t.Errorf("%s: byte %d is in class %d; want %d (%d)", s, b, d.Class[b], k, e)
			}
		}
		for n := range d.Next {
			if len(d.Next[n]) != len(l) {
				t.Errorf("%s: %d classes; want %d", s, len(d.Next[n]), len(l))
			}
		}
	}
}

// bitSets are tokens of one Set each: the bytes that have one bit. They tell all bytes apart, and byte 0 stands in none.
func bitSets() []api.Token {
	var l []api.Token
	for k := range 8 {
		var in []byte
		for b := range 256 {
			if b>>k&1 == 1 {
				in = append(in, byte(b))
			}
		}
		l = append(l, api.Token{Rx: api.Rx{Kind: api.RxSet, Set: class.Of(in)}})
	}
	return l
}

// P11.1: of bytes that no two Sets hold alike each is a class of its own.
func TestMakeAllClasses(t *testing.T) {
	l := bitSets()
	d, e := Make(l[:5])
	if e != api.OK || len(d.Next) != 32 || len(d.Next[0]) != 32 {
		t.Errorf("%d states (%d)", len(d.Next), e)
	}
	for b := range 256 {
		if int(d.Class[b]) != b%32 || d.Next[0][b%32] != b%32-map[bool]int{true: 1}[b%32 == 0] {
			t.Errorf("byte %d: class %d, state %d", b, d.Class[b], d.Next[0][b%32])
		}
	}
	if d, e := Make(l); e != api.ErrCap || !isZero(d) {
		t.Errorf("all eight: %d states (%d)", len(d.Next), e)
	}
	// Of 39 bytes that stand far apart: the least of all others is 1.
	x := api.Rx{Kind: api.RxAlt}
	for b := range 39 {
		x.Args = append(x.Args, api.Rx{Kind: api.RxSet, Set: class.Of([]byte{byte(6 * b)})})
	}
	d, e = Make([]api.Token{{Rx: x}})
	if e != api.OK || len(d.Next) != 40 || d.Class[6*38] != 39 || d.Class[0] != 0 || d.Class[1] != 1 || d.Class[6] != 2 {
		t.Errorf("39 bytes: %d states, %v (%d)", len(d.Next), d.Class, e)
	}
}

// P11.1: as many classes as there are bytes, in few states.
func TestMakeManyClasses(t *testing.T) {
	l := bitSets()
	row := api.Rx{Kind: api.RxCat}
	for _, x := range l {
		row.Args = append(row.Args, x.Rx)
	}
	d, e := Make([]api.Token{{Rx: row}})
	if e != api.OK || len(d.Next) != 9 || len(d.Next[8]) != 256 {
		t.Fatalf("%d states (%d)", len(d.Next), e)
	}
	for b := range 256 {
		if int(d.Class[b]) != b {
			t.Errorf("byte %d is in class %d", b, d.Class[b])
		}
		for s := range 8 {
			want := -1
			if b>>s&1 == 1 {
				want = s + 1
			}
			if d.Next[s][b] != want {
				t.Errorf("byte %d leads from %d to %d", b, s, d.Next[s][b])
			}
		}
	}
	wantMachine(t, []api.Token{{Rx: row}}, slowMake([]api.Token{{Rx: row}}))
}

// P11.1: which token ends, where Last places of several are in the set; of the start, which Null.
func TestMakeEnds(t *testing.T) {
	for s, want := range map[string][]int{ // of the empty text, of a, of b, of ab, of abc
		"a b ab abc":         {-1, 0, 1, 2, 3},
		"abc ab b a":         {-1, 3, 2, 1, 0},
		"a?  a  [ab]+":       {0, 0, 2, 2, -1},
		"[ab]+ a? a":         {1, 0, 0, 0, -1},
		"a b* a* .*":         {1, 0, 1, 3, 3},
		".* a b* a*":         {0, 0, 0, 0, 0},
		"ab? ab* (ab)* c?":   {2, 0, -1, 0, -1},
		"c .?.? ..? ...":     {1, 1, 1, 1, 3},
		"abc? a(bc)* [a-c]*": {2, 1, 2, 0, 0},
	} {
		d, _ := Make(tokens(t, strings.Fields(s)...))
		for n, w := range []string{"", "a", "b", "ab", "abc"} {
			if k := Run(d, []byte(w)); k != want[n] {
				t.Errorf("%s: %q is %d; want %d", s, w, k, want[n])
			}
		}
		if d.Ends[0] != want[0] {
			t.Errorf("%s: the start ends %d", s, d.Ends[0])
		}
	}
}

// P11.1: one expression, and two of them, whose texts have at most few bytes, held against texts and against places.
func TestMakeEvery(t *testing.T) {
	n := 0
	for _, s := range textsOf("ab|*+?()", 6) {
		if l := may(s); len(l) == 1 {
			n++
			wantMachine(t, l, slowMake(l))
		}
	}
	if n < 1000 {
		t.Errorf("%d expressions", n)
	}
	n = 0
	small := append(textsOf("abc|*+?", 3), "(ab)*", "(a|b)*a", "(ab)+c", "[ab]*c", "(a?b)+")
	small = slices.DeleteFunc(small, func(s string) bool { return len(may(s)) == 0 })
	for _, s := range small {
		for _, u := range small {
			n++
			l := may(s, u)
			d, _ := plainMake(l)
			wantMachine(t, l, d)
			if n%5 == 0 {
				wantMachine(t, l, slowMake(l))
			}
		}
	}
	if n < 8000 {
		t.Errorf("%d pairs", n)
	}
}

// P11.1: many tokens by chance, small and great.
func TestMakeAny(t *testing.T) {
	r := rand.New(rand.NewSource(111))
	states, caps := 0, 0
	for range 3000 {
		var l []api.Token
		for k := r.Intn(11); len(l) < k; {
			l = append(l, may(anyText(r, 2+r.Intn(10+r.Intn(40)), 0))...)
		}
		d, great := plainMake(l)
		if !great {
			wantMachine(t, l, d)
			states = max(states, len(d.Next))
			continue
		}
		caps++
		if d, e := Make(l); e != api.ErrCap || !isZero(d) {
			t.Errorf("%s: %s (%d)", shown(l), text(d), e)
		}
	}
	if states < 55 || caps < 100 {
		t.Errorf("at most %d states, %d too great", states, caps)
	}
}

// P11.1: as many states as may be, and one more, and very many.
func TestMakeGreatest(t *testing.T) {
	chain := func(n int) string { return strings.Repeat("a", n) }
	for s, states := range map[string]int{
		// Rows.
		chain(39): 40, chain(29) + " " + strings.Repeat("b", 30): 60, chain(30) + " " + strings.Repeat("b", 30): 61, chain(39) + " " + strings.Repeat("b", 39): 79,
		chain(39) + " " + chain(38) + " " + chain(20) + " " + strings.Repeat("b", 20): 60, chain(39) + " " + chain(38) + " " + strings.Repeat("b", 21): 61,
		// Subsets.
		"[ab]*a[ab][ab]": 9, "[ab]*a[ab][ab][ab]": 17, "[ab]*a[ab][ab][ab][ab]": 33, "[ab]*a[ab][ab][ab][ab][ab]": 65, "[ab]*a" + strings.Repeat("[ab]", 36): 1 << 37,
		"[ab]*a[ab][ab][ab][ab] " + strings.Repeat("c", 27): 60, "[ab]*a[ab][ab][ab][ab] " + strings.Repeat("c", 28): 61,
		// The last one is found at the very end, by the last class.
		strings.Repeat("c", 29) + " " + strings.Repeat("d", 29) + "a": 60, strings.Repeat("c", 29) + " " + strings.Repeat("d", 30) + "a": 61, chain(30) + " " + strings.Repeat("b", 28) + "[^ab]": 60, chain(30) + " " + strings.Repeat("b", 28) + "([^ab]|c)": 61,
	} {
		l := may(strings.Fields(s)...)
		if len(l) != len(strings.Fields(s)) {
			t.Fatalf("%s is no list of tokens", s)
		}
		d, e := Make(l)
		if states > 60 && (e != api.ErrCap || !isZero(d)) || states <= 60 && (e != api.OK || len(d.Next) != states || len(d.Ends) != states || !May(d)) {
			t.Errorf("%s: %d states (%d); want %d", s, len(d.Next), e, states)
		}
		if plain, great := plainMake(l); great != (states > 60) || !great && !same(d, plain) {
			t.Errorf("%s: %s; want %s", s, text(d), text(plain))
		}
	}
}

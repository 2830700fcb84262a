package dfa

import (
	"math"
	"slices"
	"strings"
	"testing"

	"eyot/api"
	"eyot/class"
	"eyot/place"
)

var (
	setA = api.Rx{Kind: api.RxSet, Set: class.Of([]byte("a"))}
	setB = api.Rx{Kind: api.RxSet, Set: class.Of([]byte("b"))}
)

func of(kind int, l ...api.Rx) api.Rx { return api.Rx{Kind: kind, Args: l} }

// wantNone asks for the error, and for nothing beside it.
func wantNone(t *testing.T, l []api.Token, want api.Errno) {
	t.Helper()
	if d, e := Make(l); e != want || !isZero(d) {
		t.Errorf("%d tokens: %d, %d states; want %d", len(l), e, len(d.Next), want)
	}
}

// faults are expressions that place.Of tells ErrForm of.
func faults() []api.Rx {
	l := []api.Rx{{}, {Kind: api.RxSet}, of(api.RxSet, setA), {Kind: api.RxSet, Set: setA.Set, Args: []api.Rx{setB}}, of(api.RxStar, of(api.RxOpt, setA)), of(api.RxCat, of(api.RxCat, setA, setB), setA), of(api.RxAlt, setA, of(api.RxCat, setB, of(api.RxPlus)))}
	for _, kind := range []int{math.MinInt, -1, 0, 7, math.MaxInt} {
		l = append(l, api.Rx{Kind: kind, Set: setA.Set}, of(kind, setA, setB))
	}
	for kind := api.RxCat; kind <= api.RxOpt; kind++ {
		l = append(l, of(kind), api.Rx{Kind: kind, Set: setA.Set, Args: []api.Rx{setA, setB}})
	}
	return l
}

// greats are expressions that place.Of tells ErrCap of.
func greats() []api.Rx {
	var l []api.Rx
	for _, n := range []int{40, 41, 64, 65, 1000, 100000} {
		l = append(l, of(api.RxCat, slices.Repeat([]api.Rx{setA}, n)...), of(api.RxAlt, slices.Repeat([]api.Rx{setB}, n)...))
	}
	for _, n := range []int{12, 13, 64, 1000} {
		x := setA
		for i := range n {
			x = []api.Rx{of(api.RxCat, setA, x), of(api.RxAlt, x, setB), of(api.RxStar, x)}[i%3]
		}
		l = append(l, x)
	}
	loop := of(api.RxCat, setA, of(api.RxStar, setB))
	loop.Args[1].Args[0] = loop
	return append(l, loop)
}

// P11.1: place.Of's error of the token that may not be, wherever it stands.
func TestMakeFaults(t *testing.T) {
	for want, l := range map[api.Errno][]api.Rx{api.ErrForm: faults(), api.ErrCap: greats()} {
		for _, x := range l {
			if _, e := place.Of(x); e != want {
				t.Fatalf("%v: %d", x, e)
			}
			wantNone(t, []api.Token{{Rx: x}}, want)
			for n := range 12 {
				some := tokens(t, slices.Repeat([]string{"a|b+"}, 11)...)
				wantNone(t, slices.Insert(some, n, api.Token{Rx: x}), want)
			}
			wantNone(t, []api.Token{{Rx: x}, {Rx: x}}, want)
			wantNone(t, []api.Token{{Name: "name", Rx: x, Trivia: true}}, want)
		}
	}
}

// P11.1: of several that may not be the first one's error, whichever they are.
func TestMakeFirstFault(t *testing.T) {
	for _, x := range faults() {
		for _, y := range greats() {
			bad, great, good := api.Token{Rx: x}, api.Token{Rx: y}, api.Token{Rx: setA}
			for _, l := range [][]api.Token{{bad, great}, {bad, good, great}, {good, bad, great, good}, {good, good, bad, great, bad}} {
				wantNone(t, l, api.ErrForm)
			}
			for _, l := range [][]api.Token{{great, bad}, {great, good, bad}, {good, great, bad, good}, {good, good, great, bad, great}} {
				wantNone(t, l, api.ErrCap)
			}
		}
	}
}

// P11.1: what place.Of says of any token is ahead of a machine that is too great.
func TestMakeFaultAheadOfStates(t *testing.T) {
	many := tokens(t, "[ab]*a"+strings.Repeat("[ab]", 30), strings.Repeat("c", 39), strings.Repeat("d", 39))
	wantNone(t, many, api.ErrCap)
	wantNone(t, many[:1], api.ErrCap)
	wantNone(t, many[1:], api.ErrCap)
	for _, x := range faults() {
		for n := range 4 {
			wantNone(t, slices.Insert(slices.Clone(many), n, api.Token{Rx: x}), api.ErrForm)
		}
	}
}

// R1: more tokens than a grammar has.
func TestMakeOfMany(t *testing.T) {
	l := slices.Repeat(tokens(t, "a|b"), 100000)
	l[0].Rx = rx(t, "c")
	d, e := Make(l)
	if e != api.OK || text(d) != "[\\x00-`d-\\xff],a,b,c -123:- ----:1 ----:1 ----:0" {
		t.Errorf("%s (%d)", text(d), e)
	}
	l[99999].Rx = api.Rx{}
	wantNone(t, l, api.ErrForm)
	l = slices.Repeat(tokens(t, strings.Repeat("a", 30), strings.Repeat("b", 30), "[ab]*a"+strings.Repeat("[ab]", 30)), 1000)
	wantNone(t, l, api.ErrCap)
}

// R2, R4: an error leaves nothing behind, and the same is told again, whatever was asked between.
func TestMakeAgain(t *testing.T) {
	l, k := tokens(t, "if", "[a-z]+", "(ab)*"), tokens(t, "b", "a*c")
	want, wantK := slowMake(l), slowMake(k)
	for range 3 {
		wantMachine(t, l, want)
		wantNone(t, append(k[:2:2], api.Token{}), api.ErrForm)
		wantMachine(t, k, wantK)
		wantNone(t, tokens(t, strings.Repeat("a", 39), strings.Repeat("b", 39)), api.ErrCap)
		wantLongest(t, want, "ifx(", 1, 3)
		Run(api.Dfa{}, []byte("if"))
		wantLongest(t, wantK, "aacc", 1, 3)
	}
}

// fill has every list of Args of x in memory with spare room, in which a mark stands.
func fill(x api.Rx) api.Rx {
	l := make([]api.Rx, 0, len(x.Args)+1)
	for _, y := range x.Args {
		l = append(l, fill(y))
	}
	x.Args = append(l, api.Rx{Kind: 77})[:len(x.Args)]
	return x
}

func sameRx(x, y api.Rx) bool {
	return x.Kind == y.Kind && x.Set == y.Set && slices.EqualFunc(x.Args, y.Args, sameRx)
}

// isFilled tells whether the marks still stand.
func isFilled(x api.Rx) bool {
	mark := x.Args[:len(x.Args)+1][len(x.Args)]
	return sameRx(mark, api.Rx{Kind: 77}) && !slices.ContainsFunc(x.Args, func(y api.Rx) bool { return !isFilled(y) })
}

// clone shares no memory with x.
func clone(x api.Rx) api.Rx {
	var l []api.Rx
	for _, y := range x.Args {
		l = append(l, clone(y))
	}
	x.Args = l
	return x
}

// R3: the tokens stay as they were, spare room too, whether they may be or not.
func TestMakeChangesNothing(t *testing.T) {
	words := []string{"if", "[a-z]+", "(a|b)*c?", "a(bc)*", "[ab]*a[ab]"}
	for _, last := range append(faults(), setA, greats()[0], rx(t, "[ab]*a"+strings.Repeat("[ab]", 30))) {
		l := append(tokens(t, words...), api.Token{Rx: last}, api.Token{Name: "spare"})
		var was []api.Token
		for i := range l {
			l[i].Rx, l[i].Trivia = fill(l[i].Rx), i%2 == 0
			was = append(was, api.Token{Name: l[i].Name, Rx: clone(l[i].Rx), Trivia: l[i].Trivia})
		}
		Make(l[:len(l)-1])
		for i := range l {
			if l[i].Name != was[i].Name || l[i].Trivia != was[i].Trivia || !sameRx(l[i].Rx, was[i].Rx) || !isFilled(l[i].Rx) {
				t.Errorf("token %d has changed", i)
			}
		}
	}
}

// R3: nothing of the tokens is kept: what was told stays.
func TestMakeKeepsNothing(t *testing.T) {
	l := tokens(t, "(ab)*c?", "x")
	d, _ := Make(l)
	was := copyOf(d)
	l[0].Rx.Args[0].Args[0].Args[1] = rx(t, "[xy]|z")
	l[1] = api.Token{Name: "new", Rx: rx(t, "d+")}
	if !same(d, was) {
		t.Errorf("what was told has become %s", text(d))
	}
	wantMachine(t, l, slowMake(l))
}

// R3: what is told is new memory, and no two lists of it share any, spare room too.
func TestMakeTellsNewMemory(t *testing.T) {
	for _, s := range []string{"", "a", "ab a", "if [a-z]+ i*", "(a?b?)+ (ab)+c", "[ab]*a[ab][ab] c?"} {
		l := tokens(t, strings.Fields(s)...)
		want := slowMake(l)
		d, _ := Make(l)
		c, _ := Make(l)
		lists := append([][]int{d.Ends}, d.Next...)
		for n, l := range lists {
			for i := range l[:cap(l)] {
				l[:cap(l)][i] = 1000 + n
			}
		}
		for n, l := range lists {
			for _, v := range l[:cap(l)] {
				if v != 1000+n {
					t.Errorf("%s: list %d shares memory with list %d", s, n, v-1000)
				}
			}
		}
		for i := range d.Next[:cap(d.Next)] {
			d.Next[:cap(d.Next)][i] = nil
		}
		if !same(c, want) {
			t.Errorf("%s: what was told is in other memory too: %s", s, text(c))
		}
		wantMachine(t, l, want)
	}
}

// R3: May, Run and Longest change neither the machine nor the text, spare room too, and keep neither.
func TestRunChangesNothing(t *testing.T) {
	good, _ := Make(tokens(t, "ab", "a*c", "[^c]"))
	bad := copyOf(good)
	bad.Next[2][0] = 99
	for _, d := range []api.Dfa{good, bad} {
		for i := range d.Next {
			d.Next[i] = append(d.Next[i], 7, 7)[:len(d.Next[i])]
		}
		d.Ends = append(d.Ends, 7)[:len(d.Ends)]
		was, w := copyOf(d), []byte("aacab*")
		for n := range len(w) + 1 {
			May(d)
			Run(d, w[:n])
			Longest(d, w[:n])
		}
		if !same(d, was) || string(w) != "aacab*" || d.Ends[:len(d.Ends)+1][len(d.Ends)] != 7 {
			t.Errorf("%v has become %v; the text is %q", was, d, w)
		}
		for i, row := range d.Next {
			if spare := row[len(row) : len(row)+2]; spare[0] != 7 || spare[1] != 7 {
				t.Errorf("the room behind row %d is changed", i)
			}
		}
	}
	// The machine's next change is seen.
	wantLongest(t, good, "ab", 0, 2)
	good.Ends[good.Next[good.Next[0][good.Class['a']]][good.Class['b']]] = 9
	wantLongest(t, good, "ab", 9, 2)
	good.Next[0][0] = 99
	wantLongest(t, good, "ab", -1, 0)
}

package place

import (
	"math"
	"strings"
	"testing"

	"eyot/api"
	"eyot/class"
	"eyot/regex"
)

var (
	setA = api.Rx{Kind: api.RxSet, Set: class.Of([]byte("a"))}
	setB = api.Rx{Kind: api.RxSet, Set: class.Of([]byte("b"))}
)

// wantNone asks for the error, and for nothing beside it.
func wantNone(t *testing.T, x api.Rx, want api.Errno) {
	t.Helper()
	p, e := Of(x)
	if e != want || regex.May(x) != want || !isZero(p) {
		t.Errorf("%s: %v (%d; May says %d); want %d", shown(x), p, e, regex.May(x), want)
	}
}

// faults are expressions that have a fault of form.
func faults() []api.Rx {
	l := []api.Rx{{}, {Kind: api.RxSet}, of(api.RxSet, setA), {Kind: api.RxSet, Set: setA.Set, Args: []api.Rx{setB}}}
	for _, kind := range []int{math.MinInt, -1, 0, 7, 8, math.MaxInt} {
		l = append(l, api.Rx{Kind: kind, Set: setA.Set}, of(kind), of(kind, setA), of(kind, setA, setB))
	}
	for _, kind := range []int{api.RxCat, api.RxAlt} {
		l = append(l, of(kind), api.Rx{Kind: kind, Args: []api.Rx{}}, of(kind, setA), of(kind, of(kind, setA, setB), setA), of(kind, setA, of(kind, setA, setB)), api.Rx{Kind: kind, Set: setA.Set, Args: []api.Rx{setA, setB}})
	}
	for kind := api.RxStar; kind <= api.RxOpt; kind++ {
		l = append(l, of(kind), of(kind, setA, setB), api.Rx{Kind: kind, Set: setA.Set, Args: []api.Rx{setA}})
		for under := api.RxStar; under <= api.RxOpt; under++ {
			l = append(l, of(kind, of(under, setA)), of(kind, of(under, of(api.RxCat, setA, setB))))
		}
	}
	return l
}

// greats are well formed expressions that are too great, or too deep.
func greats() []api.Rx {
	var l []api.Rx
	for _, n := range []int{40, 41, 64, 65, 100, 1000, 100000} {
		for _, kind := range []int{api.RxCat, api.RxAlt} {
			x := api.Rx{Kind: kind}
			for range n {
				x.Args = append(x.Args, setA)
			}
			l = append(l, x)
			if n == 40 {
				x.Args = x.Args[:39]
				l = append(l, of(api.RxStar, x), of(api.RxOpt, x), of(api.RxPlus, x))
			}
		}
	}
	for _, n := range []int{12, 13, 64, 1000} {
		x := setA
		for i := range n {
			x = []api.Rx{of(api.RxCat, setA, x), of(api.RxAlt, x, setB), of(api.RxStar, x)}[i%3]
		}
		l = append(l, x)
	}
	return l
}

// P10.1: regex.May's error of what may not be, alone and anywhere within, and nothing else told.
func TestOfFaults(t *testing.T) {
	for _, x := range faults() {
		wantNone(t, x, api.ErrForm)
		for _, y := range []api.Rx{of(api.RxCat, setA, x), of(api.RxCat, x, setA), of(api.RxAlt, setA, x), of(api.RxStar, of(api.RxAlt, setB, of(api.RxCat, setA, setB, x)))} {
			wantNone(t, y, api.ErrForm)
		}
	}
}

// P10.1: ErrCap of what is too great or too deep; ErrForm is ahead of it.
func TestOfGreat(t *testing.T) {
	for _, x := range greats() {
		wantNone(t, x, api.ErrCap)
		if x.Kind == api.RxCat {
			wantNone(t, of(api.RxStar, of(api.RxAlt, setB, x)), api.ErrCap)
		} else {
			wantNone(t, of(api.RxStar, of(api.RxCat, setB, x)), api.ErrCap)
		}
		for _, y := range faults() {
			if len(x.Args) > 1000 {
				continue
			}
			wantNone(t, of(api.RxStar, of(api.RxCat, setA, of(api.RxAlt, setA, of(api.RxCat, y, setB)), of(api.RxPlus, of(api.RxAlt, setB, of(api.RxCat, setA, x))))), api.ErrForm)
		}
	}
	// The last that may be, beside the first that may not.
	for n, want := range map[int]api.Errno{38: api.OK, 39: api.OK, 40: api.ErrCap} {
		x := api.Rx{Kind: api.RxCat}
		for range n {
			x.Args = append(x.Args, setA)
		}
		if p, e := Of(x); e != want || (e == api.OK) != (len(p.Sets) == n) {
			t.Errorf("%d places: %d, %d", n, len(p.Sets), e)
		}
	}
}

// R1: expressions of which no end is to be seen: within themselves, with one part in very many places, very deep.
func TestOfEndless(t *testing.T) {
	loop := of(api.RxCat, setA, of(api.RxStar, setB))
	loop.Args[1].Args[0] = loop
	wantNone(t, loop, api.ErrCap)
	loop.Args[0] = loop
	wantNone(t, loop, api.ErrForm)

	x := setA
	for range 200 {
		x = of(api.RxAlt, setA, of(api.RxCat, x, x))
	}
	wantNone(t, x, api.ErrCap)

	x = setA
	for range 200000 {
		x = of(api.RxStar, of(api.RxCat, setA, x))
	}
	wantNone(t, x, api.ErrCap)
	wantNone(t, of(api.RxStar, x), api.ErrForm)
}

// R2, R4: an error leaves nothing behind, and the same is told again, whatever was asked between.
func TestOfAgain(t *testing.T) {
	x, y := rx(t, "(a?b?)+c"), rx(t, "a|(bc)*")
	for range 3 {
		wantPlaces(t, x, plainOf(x))
		wantNone(t, api.Rx{}, api.ErrForm)
		wantPlaces(t, y, plainOf(y))
		wantNone(t, of(api.RxPlus, rx(t, strings.Repeat("a", 39))), api.ErrCap)
	}
}

// fill has every list of Args of x in memory with spare room, in which marks stand.
func fill(x api.Rx) api.Rx {
	mark := api.Rx{Kind: 77}
	l := make([]api.Rx, 0, len(x.Args)+3)
	for _, y := range x.Args {
		l = append(l, fill(y))
	}
	l = append(l, mark, mark, mark)
	x.Args = l[:len(x.Args)]
	return x
}

func sameRx(x, y api.Rx) bool {
	if x.Kind != y.Kind || x.Set != y.Set || len(x.Args) != len(y.Args) {
		return false
	}
	for i := range x.Args {
		if !sameRx(x.Args[i], y.Args[i]) {
			return false
		}
	}
	return true
}

// isFilled tells whether the marks still stand.
func isFilled(x api.Rx) bool {
	for _, y := range x.Args[len(x.Args) : len(x.Args)+3] {
		if y.Kind != 77 || y.Set != (api.Set{}) || y.Args != nil {
			return false
		}
	}
	for _, y := range x.Args {
		if !isFilled(y) {
			return false
		}
	}
	return true
}

// R3: what is handed in stays as it was, spare room too, whether it may be or not.
func TestOfChangesNothing(t *testing.T) {
	l := append(faults(), greats()[:12]...)
	for _, s := range []string{"a", "abc", "(a|b*)+c?", "(a?b?)+", "((a|b)+c)*", strings.Repeat("a", 39)} {
		l = append(l, rx(t, s))
	}
	for _, x := range l {
		y, was := fill(x), clone(x)
		Of(y)
		if !sameRx(y, was) || !isFilled(y) {
			t.Errorf("%s has changed", shown(was))
		}
	}
}

// R3: nothing of what is handed in is kept: what was told stays, and what is told next is of what is handed in then.
func TestOfKeepsNothing(t *testing.T) {
	x := rx(t, "(ab)*c?")
	p, _ := Of(x)
	was := copyOf(p)
	x.Args[0].Args[0].Args[1] = rx(t, "[xy]|z")
	x.Args[1] = rx(t, "d")
	if !same(p, was) {
		t.Errorf("what was told has become %s", text(p))
	}
	wantPlaces(t, x, plainOf(x))
	if q, _ := Of(x); text(q) != "a,[xy],z,d 03 3 12,03,03,- no" {
		t.Errorf("%s", text(q))
	}
}

// R3: what is told is new memory, and no two lists of it share any, spare room too.
func TestOfTellsNewMemory(t *testing.T) {
	for _, s := range []string{"a", "ab", "(a?b?)+", "(a|bc)*d?e+", "(a*b*c*)+", strings.Repeat("a?", 19), strings.Repeat("a|", 38) + "a"} {
		x := rx(t, s)
		before := clone(x)
		want := plainOf(x)
		p, _ := Of(x)
		q, _ := Of(x)
		lists := append([][]int{p.First, p.Last}, p.Follow...)
		for n, l := range lists {
			for i := range l[:cap(l)] {
				l[:cap(l)][i] = -1 - n
			}
		}
		for n, l := range lists {
			for _, v := range l[:cap(l)] {
				if v != -1-n {
					t.Errorf("%s: list %d shares memory with list %d", s, n, -1-v)
				}
			}
		}
		for i := range p.Sets[:cap(p.Sets)] {
			p.Sets[:cap(p.Sets)][i] = api.Set{7}
		}
		for i := range p.Follow[:cap(p.Follow)] {
			p.Follow[:cap(p.Follow)][i] = nil
		}
		if !same(q, want) || !sameRx(x, before) {
			t.Errorf("%s: what was told is in other memory too: %s", s, text(q))
		}
		wantPlaces(t, x, want)
	}
}

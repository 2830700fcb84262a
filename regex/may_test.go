package regex

import (
	"math"
	"math/rand"
	"testing"

	"eyot/api"
)

func wantMay(t *testing.T, x api.Rx, want api.Errno) {
	t.Helper()
	if e := May(x); e != want {
		t.Errorf("May(%.200s) = %d; want %d", text(x), e, want)
	}
}

// wrongs are expressions that have one fault of form.
func wrongs() []api.Rx {
	var l []api.Rx
	for _, kind := range []int{math.MinInt, -1000, -2, -1, 0, 7, 8, 9, 1000, math.MaxInt} {
		l = append(l, api.Rx{Kind: kind}, api.Rx{Kind: kind, Set: a.Set}, of(kind, a), of(kind, a, b))
	}
	l = append(l, api.Rx{Kind: api.RxSet}, of(api.RxSet, a), api.Rx{Kind: api.RxSet, Set: a.Set, Args: []api.Rx{b}}, api.Rx{Kind: api.RxSet, Set: a.Set, Args: []api.Rx{a, b}})
	for _, kind := range []int{api.RxCat, api.RxAlt} {
		l = append(l, of(kind), api.Rx{Kind: kind, Args: []api.Rx{}}, of(kind, a), of(kind, of(kind, a, b), c), of(kind, a, of(kind, b, c)), of(kind, a, of(kind, b, c), a), api.Rx{Kind: kind, Set: a.Set, Args: []api.Rx{a, b}}, api.Rx{Kind: kind, Set: a.Set})
	}
	for kind := api.RxStar; kind <= api.RxOpt; kind++ {
		l = append(l, of(kind), api.Rx{Kind: kind, Args: []api.Rx{}}, of(kind, a, b), of(kind, a, b, c), of(kind, star(a)), of(kind, plus(a)), of(kind, opt(a)), of(kind, opt(cat(a, b))), api.Rx{Kind: kind, Set: a.Set, Args: []api.Rx{a}}, api.Rx{Kind: kind, Set: a.Set})
	}
	return l
}

// P9.1: each fault, alone.
func TestMayWrong(t *testing.T) {
	for _, x := range wrongs() {
		wantMay(t, x, api.ErrForm)
	}
	// The fault is of the Set, by each of its limbs.
	for i := range 4 {
		x := api.Rx{Kind: api.RxSet}
		x.Set[i] = 1 << 63
		wantMay(t, x, api.OK)
		for _, y := range []api.Rx{cat(a, a), alt(a, a), star(a), plus(a), opt(a)} {
			wantMay(t, y, api.OK)
			y.Set = x.Set
			wantMay(t, y, api.ErrForm)
		}
	}
}

// P9.1: each fault in each place: ahead, behind, deep within, beside what is too great, and within it.
func TestMayWrongWithin(t *testing.T) {
	great := []api.Rx{alt(times(40, a)...), chain(13, api.RxStar, api.RxAlt), alt(times(1000, star(a))...)}
	for _, y := range great {
		wantMay(t, cat(a, y), api.ErrCap)
	}
	for _, x := range wrongs() {
		for _, y := range []api.Rx{cat(x, a), cat(a, x), cat(a, x, b), alt(x, a), alt(a, x), star(x), cat(a, star(alt(b, x))), cat(a, star(alt(x, b))), cat(alt(a, x), star(b))} {
			wantMay(t, y, api.ErrForm)
		}
		for _, y := range great {
			for _, z := range []api.Rx{cat(x, y), cat(y, x), cat(a, y, x), cat(y, b, x, y), cat(a, star(cat(y, alt(b, x)))), cat(star(alt(cat(x, a), b)), y)} {
				wantMay(t, z, api.ErrForm)
			}
		}
		for _, n := range []int{1, 10, 11, 12, 13, 39, 40, 100} {
			y := x
			for i := range n {
				y = []api.Rx{cat(a, y), alt(y, b)}[i%2]
			}
			wantMay(t, y, api.ErrForm)
		}
	}
}

// P9.1: an Arg of each kind under each kind: what may not stand so, and all that may.
func TestMayPairs(t *testing.T) {
	args := []api.Rx{a, cat(a, b), alt(a, b), star(a), plus(a), opt(a)}
	for above := api.RxCat; above <= api.RxOpt; above++ {
		for _, x := range args {
			y := of(above, x)
			if !isSign(above) {
				y = of(above, x, c)
			}
			want := api.OK
			if above == x.Kind || isSign(above) && isSign(x.Kind) {
				want = api.ErrForm
			}
			wantMay(t, y, want)
			if !isSign(above) {
				wantMay(t, of(above, c, x), want)
			}
			// Deeper within it is no other.
			if above != api.RxAlt {
				wantMay(t, cat(a, star(alt(y, b))), want)
			}
		}
	}
}

// P9.1: a list that is empty is none.
func TestMayEmptyLists(t *testing.T) {
	x := api.Rx{Kind: api.RxSet, Set: a.Set, Args: []api.Rx{}}
	wantMay(t, x, api.OK)
	wantMay(t, cat(x, star(x)), api.OK)
	x.Args = make([]api.Rx, 0, 8)
	wantMay(t, star(x), api.OK)
	if s := Show(star(x)); s != "a*" {
		t.Errorf("shown as %q", s)
	}
}

// P9.1: MaxNodes nodes, and one more, whatever they are; many more.
func TestMayNodes(t *testing.T) {
	for _, x := range []api.Rx{cat(times(39, a)...), alt(times(39, a)...), cat(append(times(19, opt(a)), a)...), alt(append(times(12, cat(a, b)), times(3, a)...)...), cat(append(times(9, plus(alt(b, c))), times(3, b)...)...), alt(star(cat(times(35, a)...)), plus(a))} {
		if nodes(x) != 40 {
			t.Errorf("%s has %d nodes", text(x), nodes(x))
		}
		wantMay(t, x, api.OK)
		wantMay(t, star(x), api.ErrCap)
		wantMay(t, of(x.Kind, append([]api.Rx{b}, x.Args...)...), api.ErrCap)
		wantMay(t, of(x.Kind, append(x.Args[:len(x.Args):len(x.Args)], b)...), api.ErrCap)
		wantMay(t, of(x.Kind, append(x.Args[:len(x.Args):len(x.Args)], times(1000, b)...)...), api.ErrCap)
	}
	wantMay(t, star(cat(times(38, a)...)), api.OK)
	wantMay(t, star(cat(times(39, a)...)), api.ErrCap)
	wantMay(t, alt(times(100000, a)...), api.ErrCap)
	wantMay(t, cat(append(times(100000, a), api.Rx{})...), api.ErrForm)
}

// P9.1: MaxDepth, and one deeper, by any kinds; the depth of the last Arg, of the first.
func TestMayDepth(t *testing.T) {
	for _, kinds := range [][]int{{api.RxCat, api.RxAlt}, {api.RxAlt, api.RxCat}, {api.RxCat, api.RxStar}, {api.RxStar, api.RxAlt}, {api.RxPlus, api.RxCat, api.RxOpt, api.RxAlt}, {api.RxAlt, api.RxOpt, api.RxCat}} {
		for n := 1; n < 30; n++ {
			x := chain(n, kinds...)
			want := api.OK
			if n > 12 {
				want = api.ErrCap
			}
			wantMay(t, x, want)
			if n > 1 && x.Kind == api.RxCat {
				wantMay(t, cat(x.Args[1], x.Args[0]), want)
			}
		}
	}
	wantMay(t, a, api.OK)
	wantMay(t, chain(12, api.RxStar, api.RxCat), api.OK)
	wantMay(t, chain(13, api.RxStar, api.RxCat), api.ErrCap)
}

// P9.1: as deeply nested as the document goes, and deeper: ErrForm is found at the bottom.
func TestMayDeep(t *testing.T) {
	for _, n := range []int{1000, 1 << 16, 1 << 18} {
		x, y := a, api.Rx{}
		for i := range n {
			if i%2 == 0 {
				x, y = star(x), star(y)
			} else {
				x, y = cat(a, x), cat(a, y)
			}
		}
		if May(x) != api.ErrCap || May(y) != api.ErrForm {
			t.Errorf("%d deep: %d, %d", n, May(x), May(y))
		}
		if Show(x) != "" || Show(y) != "" || In(x, nil) || In(y, nil) || Null(x) || Null(y) {
			t.Errorf("%d deep: something is told", n)
		}
	}
}

// R1: an expression that has the same within it so often that none could count it.
func TestMayShared(t *testing.T) {
	for bottom, want := range map[int]api.Errno{api.RxSet: api.ErrCap, 0: api.ErrForm} {
		x := api.Rx{Kind: bottom, Set: a.Set}
		for range 100 {
			x = cat(x, x, x)
			x = alt(x, x, x)
		}
		if e := May(x); e != want {
			t.Errorf("May = %d; want %d", e, want)
		}
		if Show(x) != "" || Null(x) || In(x, []byte("a")) {
			t.Error("something is told")
		}
	}
}

// R1: the same Args under two kinds, where they may stand under one of them only.
func TestMaySharedUnderKinds(t *testing.T) {
	row := []api.Rx{cat(a, b), a}
	wantMay(t, cat(alt(row...), star(alt(row...))), api.OK)
	wantMay(t, cat(alt(row...), star(cat(row...))), api.ErrForm)
	wantMay(t, cat(star(cat(row...)), alt(row...)), api.ErrForm)
	longer := []api.Rx{a, b, {}}
	wantMay(t, alt(cat(longer[:2]...), cat(longer[:2]...)), api.OK)
	wantMay(t, alt(cat(longer[:2]...), cat(longer...)), api.ErrForm)
	wantMay(t, alt(cat(longer...), cat(longer[:2]...)), api.ErrForm)
	wantMay(t, alt(star(cat(longer[:2]...)), plus(cat(longer[:2]...)), plus(longer[0]), star(longer[0])), api.OK)
	one := longer[:1]
	wantMay(t, alt(api.Rx{Kind: api.RxStar, Args: one}, api.Rx{Kind: api.RxAlt, Args: one}), api.ErrForm)
}

// R1: an expression within itself is deeper than any; a fault in it is found.
func TestMayWithinItself(t *testing.T) {
	for _, bad := range []bool{false, true} {
		row, under := make([]api.Rx, 3), make([]api.Rx, 3)
		x := api.Rx{Kind: api.RxAlt, Args: row}
		row[0], row[1], row[2] = a, api.Rx{Kind: api.RxCat, Args: under}, star(x)
		under[0], under[1], under[2] = x, x, b
		want := api.ErrCap
		if bad {
			under[2], want = api.Rx{Kind: api.RxCat, Args: under}, api.ErrForm
		}
		for _, y := range []api.Rx{x, row[1], row[2], cat(b, x)} {
			if e := May(y); e != want {
				t.Errorf("May = %d; want %d", e, want)
			}
			if Show(y) != "" || Null(y) || In(y, []byte("a")) || In(y, nil) {
				t.Error("something is told")
			}
		}
	}
	own := make([]api.Rx, 1)
	own[0] = api.Rx{Kind: api.RxStar, Args: own}
	if e := May(own[0]); e != api.ErrForm {
		t.Errorf("May = %d", e)
	}
}

// everyTree is all trees of n nodes, of each kind from 0 to 7, with an empty Set or not.
func everyTree(n int) []api.Rx {
	var l []api.Rx
	for _, args := range everyTreeRow(n - 1) {
		for kind := range 8 {
			l = append(l, api.Rx{Kind: kind, Args: args}, api.Rx{Kind: kind, Set: a.Set, Args: args})
		}
	}
	return l
}

func everyTreeRow(n int) [][]api.Rx {
	if n == 0 {
		return [][]api.Rx{nil}
	}
	var l [][]api.Rx
	for k := 1; k <= n; k++ {
		for _, x := range everyTree(k) {
			for _, more := range everyTreeRow(n - k) {
				l = append(l, append([]api.Rx{x}, more...))
			}
		}
	}
	return l
}

// P9.1: every tree of at most four nodes.
func TestMayEveryTree(t *testing.T) {
	for n := 1; n <= 4; n++ {
		for _, x := range everyTree(n) {
			wantMay(t, x, plainMay(x))
		}
	}
}

// P9.1: expressions by chance, near the limits, as they are and with one thing changed.
func TestMayAny(t *testing.T) {
	r := rand.New(rand.NewSource(92))
	var told [7]int
	for range 100000 {
		x := anyRx(r, 20+r.Intn(200), 8+r.Intn(8), 0)
		wantMay(t, x, plainMay(x))
		told[May(x)]++
		spot := &x
		for len(spot.Args) > 0 && r.Intn(4) > 0 {
			spot = &spot.Args[r.Intn(len(spot.Args))]
		}
		switch r.Intn(4) {
		case 0:
			spot.Kind = r.Intn(9) - 1
		case 1:
			spot.Set[r.Intn(4)] ^= 1
		case 2:
			spot.Args = append(spot.Args, anyRx(r, 10, 4, spot.Kind))
		case 3:
			spot.Args = spot.Args[:len(spot.Args)/2]
		}
		wantMay(t, x, plainMay(x))
		told[May(x)]++
	}
	for _, e := range []api.Errno{api.OK, api.ErrForm, api.ErrCap} {
		if told[e] < 1000 {
			t.Errorf("%d is told only %d times", e, told[e])
		}
	}
}

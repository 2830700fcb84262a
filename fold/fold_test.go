package fold

import (
	"math"
	"math/big"
	"math/rand"
	"slices"
	"testing"

	"eyot/weigh"
)

var (
	minus = math.Copysign(0, -1)
	inf   = math.Inf(1)
	nan   = math.NaN()
	tiny  = math.SmallestNonzeroFloat64
	great = math.MaxFloat64
)

// edges are the numbers of which every kind of list is made; NaNs differ in bits and sign.
func edges() []float64 {
	return []float64{
		nan, -nan, nanOf(0x7ff0000000000001), nanOf(0xfff0000000000001), nanOf(0xffffffffffffffff),
		-inf, -great, -1e16, -2.5, -1, -tiny, minus, 0, tiny, 0.1, 1, 2.5, 1e16, great, inf,
	}
}

func nanOf(bits uint64) float64 { return math.Float64frombits(bits) }

// alike is stricter than weigh.Same, and does not lean on it: NaNs are one, noughts are two.
func alike(a, b float64) bool {
	return math.IsNaN(a) && math.IsNaN(b) || math.Float64bits(a) == math.Float64bits(b)
}

func bitsOf(l []float64) []uint64 {
	bits := make([]uint64, len(l))
	for i, x := range l {
		bits[i] = math.Float64bits(x)
	}
	return bits
}

// P2.1: Sum of ordinary lists, and of the edges.
func TestSum(t *testing.T) {
	for _, c := range []struct {
		l    []float64
		want float64
	}{
		{nil, 0}, {[]float64{}, 0}, {[]float64{7}, 7}, {[]float64{-7.5}, -7.5}, {[]float64{1, 2.5, -3}, 0.5}, {[]float64{0.1, 0.2}, 0.30000000000000004},
		{[]float64{minus}, 0}, {[]float64{minus, minus}, 0}, {[]float64{0, minus}, 0}, {[]float64{1, -1}, 0}, {[]float64{-1, 1, minus}, 0},
		{[]float64{1e16, 1, -1e16}, 0}, {[]float64{1e16, -1e16, 1}, 1}, {[]float64{1, 1e16, -1e16}, 0}, {[]float64{1e16, 1, 1}, 1e16}, {[]float64{1, 1, 1e16}, 10000000000000002},
		{[]float64{0.1, 0.2, 0.3}, 0.6000000000000001}, {[]float64{0.3, 0.2, 0.1}, 0.6},
		{[]float64{great, great}, inf}, {[]float64{great, great, -great}, inf}, {[]float64{great, -great, great}, great}, {[]float64{-great, -great}, -inf},
		{[]float64{tiny, tiny}, 2 * tiny}, {[]float64{tiny, -tiny}, 0},
		{[]float64{inf}, inf}, {[]float64{-inf}, -inf}, {[]float64{inf, 5}, inf}, {[]float64{5, -inf, 5}, -inf}, {[]float64{inf, inf}, inf},
		{[]float64{inf, -inf}, nan}, {[]float64{-inf, inf}, nan}, {[]float64{inf, -inf, 1}, nan}, {[]float64{inf, -inf, inf}, nan}, {[]float64{great, great, -inf}, nan},
		{[]float64{nan}, nan}, {[]float64{nan, 1}, nan}, {[]float64{1, nan}, nan}, {[]float64{1, nan, 2}, nan}, {[]float64{nan, inf}, nan}, {[]float64{-nan, nan}, nan},
	} {
		if s := Sum(c.l); !alike(s, c.want) {
			t.Errorf("Sum(%v) = %v; want %v", c.l, s, c.want)
		}
	}
}

// P2.1: one by one: neither in pairs nor with what was lost carried on.
func TestSumLosesEachStepAlone(t *testing.T) {
	l := []float64{1e16}
	for range 1 << 12 {
		l = append(l, 1)
	}
	if s := Sum(l); s != 1e16 {
		t.Errorf("%v", s)
	}
	slices.Reverse(l)
	if s := Sum(l); s != 1e16+1<<12 {
		t.Errorf("turned: %v", s)
	}
}

// P2.1: every step is rounded to float64, as a number of 53 bits that is held by other means is.
func TestSumRoundsEveryStep(t *testing.T) {
	r := rand.New(rand.NewSource(1))
	for range 2000 {
		l := make([]float64, r.Intn(40))
		want := new(big.Float).SetPrec(53)
		for i := range l {
			l[i] = math.Ldexp(r.NormFloat64(), r.Intn(120)-60)
			want.Add(want, big.NewFloat(l[i]))
		}
		if w, _ := want.Float64(); !alike(Sum(l), w) {
			t.Fatalf("Sum(%v) = %v; want %v", l, Sum(l), w)
		}
	}
}

// P2.1: Times.
func TestTimes(t *testing.T) {
	for _, c := range []struct {
		a    float64
		n    int
		want float64
	}{
		{1.5, 4, 6}, {1.5, -4, -6}, {1.5, 1, 1.5}, {-1.5, -1, 1.5}, {0.1, 3, 0.30000000000000004}, {7, 0, 0},
		{-2, 0, minus}, {0, 5, 0}, {0, -5, minus}, {minus, 3, minus}, {minus, -3, 0}, {minus, 0, minus}, {0, 0, 0},
		{inf, 0, nan}, {-inf, 0, nan}, {inf, 2, inf}, {inf, -1, -inf}, {-inf, 2, -inf}, {-inf, -2, inf},
		{nan, 1, nan}, {nan, 0, nan}, {-nan, -1, nan},
		{great, 2, inf}, {great, -2, -inf}, {-great, 2, -inf}, {great, 1, great}, {tiny, 3, 3 * tiny}, {tiny, -1, -tiny},
		{1, math.MaxInt, 0x1p63}, {1, math.MinInt, -0x1p63}, {1, 1<<53 + 1, 0x1p53}, {1e300, math.MaxInt, inf},
	} {
		if y := Times(c.a, c.n); !alike(y, c.want) {
			t.Errorf("Times(%v, %d) = %v; want %v", c.a, c.n, y, c.want)
		}
	}
}

// P2.1: Times is one product, not a sum of many.
func TestTimesIsNoSum(t *testing.T) {
	if y := Times(0.1, 10); y != 1 {
		t.Errorf("%v", y)
	}
}

// P2.2: Least and Most.
func TestLeastMost(t *testing.T) {
	for _, c := range []struct {
		l           []float64
		least, most float64
		is          bool
	}{
		{nil, 0, 0, false}, {[]float64{}, 0, 0, false}, {[]float64{nan}, 0, 0, false}, {[]float64{nan, -nan, nanOf(0xffffffffffffffff)}, 0, 0, false},
		{[]float64{5}, 5, 5, true}, {[]float64{-5}, -5, -5, true}, {[]float64{3, 1, 2}, 1, 3, true}, {[]float64{1, 2, 3}, 1, 3, true}, {[]float64{3, 2, 1}, 1, 3, true}, {[]float64{-1, -3, -2}, -3, -1, true}, {[]float64{4, 4}, 4, 4, true},
		{[]float64{0}, 0, 0, true}, {[]float64{minus}, minus, minus, true}, {[]float64{0, minus}, minus, 0, true}, {[]float64{minus, 0}, minus, 0, true}, {[]float64{0, minus, 0}, minus, 0, true}, {[]float64{minus, 0, minus}, minus, 0, true},
		{[]float64{minus, 1}, minus, 1, true}, {[]float64{-1, minus}, -1, minus, true}, {[]float64{tiny, 0}, 0, tiny, true}, {[]float64{-tiny, minus}, -tiny, minus, true},
		{[]float64{inf}, inf, inf, true}, {[]float64{-inf}, -inf, -inf, true}, {[]float64{inf, -inf}, -inf, inf, true}, {[]float64{great, inf, -great, -inf}, -inf, inf, true}, {[]float64{great, -great}, -great, great, true},
		{[]float64{nan, 3}, 3, 3, true}, {[]float64{3, nan}, 3, 3, true}, {[]float64{nan, -3, nan, 2, -nan}, -3, 2, true}, {[]float64{nan, inf}, inf, inf, true}, {[]float64{-nan, -inf}, -inf, -inf, true}, {[]float64{nan, minus, nan, 0, nan}, minus, 0, true},
	} {
		if x, is := Least(c.l); !alike(x, c.least) || is != c.is {
			t.Errorf("Least(%v) = %v, %v; want %v, %v", c.l, x, is, c.least, c.is)
		}
		if x, is := Most(c.l); !alike(x, c.most) || is != c.is {
			t.Errorf("Most(%v) = %v, %v; want %v, %v", c.l, x, is, c.most, c.is)
		}
	}
}

// P2.2: Sort.
func TestSort(t *testing.T) {
	for _, c := range []struct{ l, want []float64 }{
		{nil, nil}, {[]float64{}, nil}, {[]float64{2}, []float64{2}}, {[]float64{3, 1, 2}, []float64{1, 2, 3}}, {[]float64{2, 1, 2, 1}, []float64{1, 1, 2, 2}}, {[]float64{-1, -2.5, 10, 9}, []float64{-2.5, -1, 9, 10}},
		{[]float64{0, minus, 0, minus}, []float64{minus, minus, 0, 0}}, {[]float64{tiny, 0, minus, -tiny}, []float64{-tiny, minus, 0, tiny}},
		{[]float64{inf, great, -great, -inf}, []float64{-inf, -great, great, inf}},
		{[]float64{nan, inf, nan, -inf}, []float64{-inf, inf, nan, nan}}, {[]float64{-nan, -inf}, []float64{-inf, nan}},
		{[]float64{nan, 3, 0, minus, inf, -inf, nan, 3}, []float64{-inf, minus, 0, 3, 3, inf, nan, nan}},
	} {
		if s := Sort(c.l); !slices.EqualFunc(s, c.want, alike) {
			t.Errorf("Sort(%v) = %v; want %v", c.l, s, c.want)
		}
	}
}

// P2.2: alike ones as they stood: of NaNs the bits tell it, in lists long enough for any way of sorting.
func TestSortKeepsAlikeOnesAsTheyStood(t *testing.T) {
	var l, numbers, nans []float64
	for i := range 500 {
		n := nanOf(0x7ff8000000000000 | uint64(i)<<1 | uint64(i%3)<<62)
		l, nans = append(l, n, float64(500-i)), append(nans, n)
		numbers = append(numbers, float64(i+1))
	}
	if s := Sort(l); !slices.Equal(bitsOf(s), bitsOf(append(numbers, nans...))) {
		t.Errorf("%x", bitsOf(s))
	}
}

// sortedPlainly puts one number after the other behind those that it does not stand ahead of: stable by its making.
func sortedPlainly(l []float64) []float64 {
	var s []float64
	for _, x := range l {
		i := len(s)
		for i > 0 && ahead(x, s[i-1]) {
			i--
		}
		s = slices.Insert(s, i, x)
	}
	return s
}

// ahead is the order's sentence, word for word, without weigh.
func ahead(a, b float64) bool {
	switch {
	case math.IsNaN(a):
		return false
	case math.IsNaN(b):
		return true
	case a == 0 && b == 0:
		return math.Signbit(a) && !math.Signbit(b)
	}
	return a < b
}

func numbersOf(l []float64) []float64 {
	return slices.DeleteFunc(slices.Clone(l), math.IsNaN)
}

// P2.1, P2.2: every call against the plain way, and no list changed, its spare room neither.
func checkAll(t *testing.T, l []float64) {
	t.Helper()
	held := append(slices.Clone(l), 7, 8, 9)
	was, handed := bitsOf(held), held[:len(l)]
	want := sortedPlainly(l)
	if s := Sort(handed); !slices.Equal(bitsOf(s), bitsOf(want)) {
		t.Errorf("Sort(%v) = %v; want %v", l, s, want)
	}
	var least, most float64
	numbers := numbersOf(want)
	is := len(numbers) > 0
	if is {
		least, most = numbers[0], numbers[len(numbers)-1]
	}
	if x, in := Least(handed); !alike(x, least) || in != is {
		t.Errorf("Least(%v) = %v, %v", l, x, in)
	}
	if x, in := Most(handed); !alike(x, most) || in != is {
		t.Errorf("Most(%v) = %v, %v", l, x, in)
	}
	sum := 0.0
	for i := range l {
		sum += l[i]
	}
	if s := Sum(handed); !alike(s, sum) {
		t.Errorf("Sum(%v) = %v; want %v", l, s, sum)
	}
	if !slices.Equal(bitsOf(held), was) {
		t.Errorf("%v became %v", l, held)
	}
}

func TestAllShortListsOfEdges(t *testing.T) {
	var grow func(l []float64)
	grow = func(l []float64) {
		checkAll(t, l)
		if len(l) == 3 {
			return
		}
		for _, x := range edges() {
			grow(append(slices.Clone(l), x))
		}
	}
	grow(nil)
}

func TestManyLists(t *testing.T) {
	r := rand.New(rand.NewSource(2))
	all := edges()
	for range 3000 {
		l := make([]float64, r.Intn(60))
		for i := range l {
			if l[i] = all[r.Intn(len(all))]; r.Intn(2) == 0 {
				l[i] = math.Float64frombits(r.Uint64())
			}
		}
		checkAll(t, l)
	}
}

// R3: what Sort tells is its own memory, even where there was nothing to move.
func TestSortTellsNewMemory(t *testing.T) {
	l := []float64{1, 2, 3}
	s := Sort(l)
	s[0] = 9
	if l[0] != 1 || Sort(l)[0] != 1 {
		t.Errorf("shared with what was handed in: %v", l)
	}
	spare := []float64{5, 6}
	if s = append(Sort(spare[:0]), 8); spare[0] != 5 || len(s) != 1 {
		t.Errorf("spare room of what was handed in: %v", spare)
	}
}

// What follows: Sort does not ask how l stood, but for NaNs' bits.
func TestSortOfAnyOrder(t *testing.T) {
	r := rand.New(rand.NewSource(3))
	l := edges()
	want := Sort(l)
	for range 500 {
		r.Shuffle(len(l), func(i, j int) { l[i], l[j] = l[j], l[i] })
		if s := Sort(l); !slices.EqualFunc(s, want, alike) || !slices.IsSortedFunc(s, weigh.Order) {
			t.Fatalf("Sort(%v) = %v; want %v", l, s, want)
		}
	}
}

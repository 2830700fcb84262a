package dfa

import (
	"math"
	"math/rand"
	"slices"
	"strings"
	"testing"

	"eyot/api"
	"eyot/class"
)

func wantRun(t *testing.T, d api.Dfa, w string, want int) {
	t.Helper()
	if k := Run(d, []byte(w)); k != want {
		t.Errorf("Run(%q) = %d; want %d; %s", w, k, want, text(d))
	}
}

func wantLongest(t *testing.T, d api.Dfa, w string, token, n int) {
	t.Helper()
	if k, m := Longest(d, []byte(w)); k != token || m != n {
		t.Errorf("Longest(%q) = %d, %d; want %d, %d; %s", w, k, m, token, n, text(d))
	}
}

// P11.2, the example of the chapter.
func TestExample(t *testing.T) {
	d, e := Make(tokens(t, "ab", "a"))
	if e != api.OK {
		t.Fatal(e)
	}
	wantLongest(t, d, "ac", 1, 1)
}

// P11.2: texts that are tokens, and such as begin with one, and such as don't.
func TestRunAndLongest(t *testing.T) {
	type told struct{ run, token, n int }
	for s, words := range map[string]map[string]told{
		"if [a-z]+ [0-9]+(\\.[0-9]+)? \\x20+": {
			"": {-1, -1, 0}, "if": {0, 0, 2}, "i": {1, 1, 1}, "iff": {1, 1, 3}, "if(": {-1, 0, 2}, "if if": {-1, 0, 2}, "(if": {-1, -1, 0}, "  if": {-1, 3, 2}, " ": {3, 3, 1},
			"4": {2, 2, 1}, "4.": {-1, 2, 1}, "4.5": {2, 2, 3}, "4.5.": {-1, 2, 3}, "4..5": {-1, 2, 1}, "4.5.6": {-1, 2, 3}, "4x": {-1, 2, 1}, "x4": {-1, 1, 1}, ".": {-1, -1, 0}, ".5": {-1, -1, 0},
		},
		// The empty match says nothing to Longest.
		"a*":   {"": {0, -1, 0}, "a": {0, 0, 1}, "aa": {0, 0, 2}, "b": {-1, -1, 0}, "ab": {-1, 0, 1}, "ba": {-1, -1, 0}},
		"a? b": {"": {0, -1, 0}, "a": {0, 0, 1}, "b": {1, 1, 1}, "ab": {-1, 0, 1}, "aa": {-1, 0, 1}, "c": {-1, -1, 0}},
		// Behind states that end nothing.
		"a abcd":   {"": {-1, -1, 0}, "a": {0, 0, 1}, "ab": {-1, 0, 1}, "abc": {-1, 0, 1}, "abcd": {1, 1, 4}, "abcx": {-1, 0, 1}, "abcde": {-1, 1, 4}, "b": {-1, -1, 0}},
		"a (aab)+": {"a": {0, 0, 1}, "aa": {-1, 0, 1}, "aab": {1, 1, 3}, "aaba": {-1, 1, 3}, "aabaa": {-1, 1, 3}, "aabaab": {1, 1, 6}, "aabab": {-1, 1, 3}},
		"(ab)+c":   {"ab": {-1, -1, 0}, "abab": {-1, -1, 0}, "ababc": {0, 0, 5}, "abcc": {-1, 0, 3}, "abac": {-1, -1, 0}},
		// Several of one length: the first; the longer one is ahead of the first.
		"ab [ab]+ a .b": {"a": {1, 1, 1}, "ab": {0, 0, 2}, "bb": {1, 1, 2}, "cb": {3, 3, 2}, "abb": {1, 1, 3}, "abc": {-1, 0, 2}, "cbb": {-1, 3, 2}, "c": {-1, -1, 0}},
		".b a [ab]+ ab": {"a": {1, 1, 1}, "ab": {0, 0, 2}, "bb": {0, 0, 2}, "cb": {0, 0, 2}, "abb": {2, 2, 3}, "abc": {-1, 0, 2}, "aac": {-1, 2, 2}},
		// Bytes of any kind.
		"\\x00+ [\\x80-\\xff] \\xff\\x00": {"\x00\x00": {0, 0, 2}, "\x00\x80": {-1, 0, 1}, "\xff": {1, 1, 1}, "\xff\x00": {2, 2, 2}, "\xff\x01": {-1, 1, 1}, "\x7f": {-1, -1, 0}, "\xfe\x00": {-1, 1, 1}},
		"":                                {"": {-1, -1, 0}, "a": {-1, -1, 0}, "\x00\xff": {-1, -1, 0}},
	} {
		d, e := Make(tokens(t, strings.Fields(s)...))
		if e != api.OK {
			t.Fatalf("%s: %d", s, e)
		}
		for w, want := range words {
			wantRun(t, d, w, want.run)
			wantLongest(t, d, w, want.token, want.n)
		}
	}
}

// P11.2: what follows: Run is the first token that matches, Longest the first of the longest: all texts of at most four bytes.
func TestRunEvery(t *testing.T) {
	words, n := textsOf("abc", 4), 0
	for _, s := range []string{"a b c", "ab a", "a* b+ c?", "(ab)* a(b|c) .", "[ab]*a[ab] b.* abc", "a abcc ab", "abc|b [^a]+ aa", "(a|b)+c (ab)+ c*", ". a* aa aaa", "(a?b?c?)* ab", "[ab][bc] [bc][ab] abca?", "a(ba)*c? (b|cc)+"} {
		l := tokens(t, strings.Fields(s)...)
		d, _ := Make(l)
		for _, w := range words {
			n++
			wantRun(t, d, w, plainRun(l, []byte(w)))
			k, m := plainLongest(l, []byte(w))
			wantLongest(t, d, w, k, m)
		}
	}
	if n < 1000 {
		t.Errorf("%d texts", n)
	}
}

// P11.2: many tokens and longer texts by chance.
func TestRunAny(t *testing.T) {
	r := rand.New(rand.NewSource(112))
	var told [4]int
	for range 1500 {
		l := may(anyText(r, 2+r.Intn(20), 0), anyText(r, 2+r.Intn(20), 0), anyText(r, 2+r.Intn(10), 0), anyText(r, 1+r.Intn(5), 0))
		d, e := Make(l)
		if e != api.OK {
			continue
		}
		for range 6 {
			w := anyWord(r, d, r.Intn(25))
			if r.Intn(3) > 0 {
				w += []string{"a", "b", "c", "\xff", "ab", "xyz"}[r.Intn(6)]
			}
			k, m := plainLongest(l, []byte(w))
			wantRun(t, d, w, plainRun(l, []byte(w)))
			wantLongest(t, d, w, k, m)
			switch {
			case k < 0:
				told[0]++
			case m == len(w):
				told[1]++
			case m+1 == len(w):
				told[2]++
			default:
				told[3]++
			}
		}
	}
	if slices.Min(told[:]) < 400 {
		t.Errorf("none, all, all but one, less: %v", told)
	}
}

// P11.2: texts of any length.
func TestRunLong(t *testing.T) {
	d, _ := Make(tokens(t, "(ab)+c", "a", "(ab)+"))
	for _, n := range []int{1, 59, 60, 61, 255, 256, 1000, 1 << 20} {
		w := strings.Repeat("ab", n)
		wantRun(t, d, w, 2)
		wantLongest(t, d, w, 2, 2*n)
		wantRun(t, d, w+"c", 0)
		wantLongest(t, d, w+"c", 0, 2*n+1)
		wantLongest(t, d, w+"cc", 0, 2*n+1)
		wantLongest(t, d, w+"a", 2, 2*n)
		wantRun(t, d, w+"a", -1)
		wantLongest(t, d, "b"+w, -1, 0)
	}
}

// with is a machine that Make told, and something changed.
func with(t *testing.T, f func(d *api.Dfa)) api.Dfa {
	t.Helper()
	d, e := Make(tokens(t, "ab", "a*c", "[^c]"))
	if e != api.OK || !May(d) || len(d.Next) < 5 || len(d.Next[0]) != 4 {
		t.Fatalf("%s (%d)", text(d), e)
	}
	f(&d)
	return d
}

// P11.2: each fault of a machine, at either end; Run and Longest tell nothing of it, whatever the text is.
func TestMayFaults(t *testing.T) {
	big := []int{math.MinInt, math.MinInt32, -1000, -3, -2}
	faults := []api.Dfa{
		{}, {Next: [][]int{}, Ends: []int{}}, {Ends: []int{0}}, {Next: [][]int{{0}}}, {Next: [][]int{{}}, Ends: []int{0}}, {Next: [][]int{nil}, Ends: []int{0}}, {Next: [][]int{{0, 0}}, Ends: []int{0}}, {Next: [][]int{{1}}, Ends: []int{0}}, {Next: [][]int{{-2}}, Ends: []int{0}}, {Next: [][]int{{0}}, Ends: []int{-2}},
		{Next: [][]int{{0}}, Ends: []int{0, 0}}, {Next: [][]int{{0}, {0}}, Ends: []int{0}},
		// No state, and lists that are too short or too long.
		with(t, func(d *api.Dfa) { d.Next = nil }), with(t, func(d *api.Dfa) { d.Ends = nil }), with(t, func(d *api.Dfa) { d.Next, d.Ends = nil, nil }), with(t, func(d *api.Dfa) { d.Ends = d.Ends[1:] }), with(t, func(d *api.Dfa) { d.Ends = append(d.Ends, -1) }), with(t, func(d *api.Dfa) { d.Next = d.Next[:len(d.Next)-1] }), with(t, func(d *api.Dfa) { d.Next = append(d.Next, []int{-1, -1, -1, -1}) }),
		// A class that is too great; one greatest class less than rows are long.
		with(t, func(d *api.Dfa) { d.Class[0] = 4 }), with(t, func(d *api.Dfa) { d.Class[255] = 4 }), with(t, func(d *api.Dfa) { d.Class['z'] = 255 }), with(t, func(d *api.Dfa) { d.Class['c'] = 2 }), with(t, func(d *api.Dfa) { d.Class = [256]uint8{} }),
	}
	for s := range 5 {
		faults = append(faults, with(t, func(d *api.Dfa) { d.Next[s] = nil }), with(t, func(d *api.Dfa) { d.Next[s] = []int{} }), with(t, func(d *api.Dfa) { d.Next[s] = d.Next[s][:3] }), with(t, func(d *api.Dfa) { d.Next[s] = append(d.Next[s], -1) }))
		for _, n := range big {
			faults = append(faults, with(t, func(d *api.Dfa) { d.Ends[s] = n }))
		}
		for c := range 4 {
			for _, n := range append(big, math.MaxInt, math.MaxInt32, 1000) {
				faults = append(faults, with(t, func(d *api.Dfa) { d.Next[s][c] = n }))
			}
			faults = append(faults, with(t, func(d *api.Dfa) { d.Next[s][c] = len(d.Next) }))
		}
	}
	for i, d := range faults {
		if May(d) {
			t.Errorf("%d: %v may be", i, d)
		}
		for _, w := range []string{"", "a", "ab", "aac", "b", "zz", "\x00", "\xff\xff"} {
			if k := Run(d, []byte(w)); k != -1 {
				t.Errorf("%d: Run(%q) = %d", i, w, k)
			}
			if k, n := Longest(d, []byte(w)); k != -1 || n != 0 {
				t.Errorf("%d: Longest(%q) = %d, %d", i, w, k, n)
			}
		}
	}
}

// P11.2: machines that may be, though Make would tell none such.
func TestMayBe(t *testing.T) {
	wide := api.Dfa{Next: [][]int{make([]int, 256)}, Ends: []int{5}}
	for b := range 256 {
		wide.Class[b] = uint8(255 - b)
	}
	gap := api.Dfa{Next: [][]int{{-1, -1, 0}}, Ends: []int{-1}}
	gap.Class['x'] = 2
	long := api.Dfa{}
	for n := range 1000 {
		long.Next, long.Ends = append(long.Next, []int{(n + 1) % 1000}), append(long.Ends, n%2-1)
	}
	for i, d := range []api.Dfa{{Next: [][]int{{-1}}, Ends: []int{-1}}, {Next: [][]int{{0}}, Ends: []int{math.MaxInt}}, {Next: [][]int{{0}, {-1}}, Ends: []int{0, 12}}, wide, gap, long} {
		if !May(d) {
			t.Errorf("%d: %v may not be", i, d)
		}
		for _, w := range []string{"", "a", "ab", "x", "xa", "xx", strings.Repeat("b", 999), strings.Repeat("c", 1001)} {
			wantRun(t, d, w, walkRun(d, []byte(w)))
			k, n := walkLongest(d, []byte(w))
			wantLongest(t, d, w, k, n)
		}
	}
	// The start is a state as any other once a byte is read.
	back := api.Dfa{Next: [][]int{{1}, {0}}, Ends: []int{3, -1}}
	wantRun(t, back, "", 3)
	wantLongest(t, back, "", -1, 0)
	wantLongest(t, back, "a", -1, 0)
	wantLongest(t, back, "aa", 3, 2)
	wantLongest(t, back, "aaa", 3, 2)
	wantRun(t, api.Dfa{Next: [][]int{{0}}, Ends: []int{math.MaxInt}}, "abc", math.MaxInt)
}

// anyDfa is a machine that may be.
func anyDfa(r *rand.Rand) api.Dfa {
	states, classes := 1+r.Intn(5), 1+r.Intn(4)
	var d api.Dfa
	for b := range d.Class {
		d.Class[b] = uint8(r.Intn(classes))
	}
	d.Class[r.Intn(256)] = uint8(classes - 1)
	for range states {
		var row []int
		for range classes {
			row = append(row, r.Intn(states+1)-1)
		}
		d.Next, d.Ends = append(d.Next, row), append(d.Ends, r.Intn(4)-1)
	}
	return d
}

// P11.2: machines by chance, as they are and with one thing changed.
func TestMayAny(t *testing.T) {
	r := rand.New(rand.NewSource(113))
	yes, no := 0, 0
	for range 20000 {
		d := anyDfa(r)
		if !May(d) {
			t.Fatalf("%v may not be", d)
		}
		s := r.Intn(len(d.Next))
		switch r.Intn(8) {
		case 0:
			d.Next[s][r.Intn(len(d.Next[s]))] = r.Intn(9) - 3
		case 1:
			d.Ends[s] = r.Intn(7) - 4
		case 2:
			d.Class[r.Intn(256)] = uint8(r.Intn(6))
		case 3:
			d.Next[s] = append(d.Next[s], 0)[r.Intn(2):]
		case 4:
			d.Ends = append(d.Ends, 0)[r.Intn(2):]
		case 5:
			d.Next = d.Next[r.Intn(2):]
		}
		is := plainMay(d)
		if May(d) != is {
			t.Fatalf("May(%v) = %v", d, !is)
		}
		w := []byte{byte(r.Intn(256)), byte(r.Intn(256)), byte(r.Intn(256)), byte(r.Intn(256)), byte(r.Intn(256))}[:r.Intn(6)]
		k, token, n := -1, -1, 0
		if is {
			yes++
			k = walkRun(d, w)
			token, n = walkLongest(d, w)
		} else {
			no++
		}
		if got := Run(d, w); got != k {
			t.Errorf("Run(%v, %v) = %d; want %d", d, w, got, k)
		}
		if got, m := Longest(d, w); got != token || m != n {
			t.Errorf("Longest(%v, %v) = %d, %d; want %d, %d", d, w, got, m, token, n)
		}
	}
	if yes < 5000 || no < 5000 {
		t.Errorf("%d may be, %d may not", yes, no)
	}
}

// P11.2: a byte stands in its own class alone, whichever it is.
func TestRunBytes(t *testing.T) {
	for b := range 256 {
		one := class.Of([]byte{byte(b)})
		d, _ := Make([]api.Token{{Rx: api.Rx{Kind: api.RxSet, Set: one}}, {Rx: api.Rx{Kind: api.RxPlus, Args: []api.Rx{{Kind: api.RxSet, Set: class.Not(one)}}}}})
		for c := range 256 {
			k := 1
			if c == b {
				k = 0
			}
			w := string([]byte{byte(c)})
			wantRun(t, d, w, k)
			wantLongest(t, d, w+w, k, k+1)
		}
	}
}

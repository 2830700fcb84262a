package file

import (
	"bytes"
	"math"
	"math/rand"
	"slices"
	"testing"

	"eyot/api"
	"eyot/page"
)

// letters is a file of n bytes in which neighbours, and pages, can be told apart.
func letters(n int) []byte {
	b := make([]byte, n)
	for i := range b {
		b[i] = byte(i*7 + i/256 + 1)
	}
	return b
}

// open is the file base in pages of size, of which at most most are kept.
func open(t *testing.T, base []byte, size, most int) (*File, *page.Pages) {
	t.Helper()
	p, e := page.New(base, size)
	if e != api.OK {
		t.Fatalf("page.New(%d bytes, %d): %d", len(base), size, e)
	}
	f := New(p, most)
	if f == nil {
		t.Fatal("New: nil")
	}
	return f, p
}

// ten is a file of ten bytes in pages 0: abc, 1: def, 2: ghi, 3: j.
func ten(t *testing.T, most int) (*File, *page.Pages) {
	t.Helper()
	return open(t, []byte("abcdefghij"), 3, most)
}

func wantBytes(t *testing.T, f *File, from, to int, want string) {
	t.Helper()
	if b, e := f.Bytes(from, to); string(b) != want || e != api.OK {
		t.Errorf("Bytes(%d, %d) = %q, %d; want %q", from, to, b, e, want)
	}
}

func wantAt(t *testing.T, f *File, i int, want byte) {
	t.Helper()
	if c, e := f.At(i); c != want || e != api.OK {
		t.Errorf("At(%d) = %q, %d; want %q", i, c, e, want)
	}
}

func wantNoBytes(t *testing.T, f *File, from, to int, want api.Errno) {
	t.Helper()
	if b, e := f.Bytes(from, to); len(b) != 0 || e != want {
		t.Errorf("Bytes(%d, %d) = %q, %d; want nothing, %d", from, to, b, e, want)
	}
}

func wantNotAt(t *testing.T, f *File, i int, want api.Errno) {
	t.Helper()
	if c, e := f.At(i); c != 0 || e != want {
		t.Errorf("At(%d) = %q, %d; want 0, %d", i, c, e, want)
	}
}

// wantReads: these pages were read since it was asked last.
func wantReads(t *testing.T, p *page.Pages, want ...int) {
	t.Helper()
	if l := p.Reads(); !slices.Equal(l, want) {
		t.Errorf("read: %v; want %v", l, want)
	}
	p.Clear()
}

// wantKept: these pages are kept, who was used last first.
func wantKept(t *testing.T, f *File, want ...int) {
	t.Helper()
	if l := f.kept.Keys(); !slices.Equal(l, want) || f.Kept() != len(want) {
		t.Errorf("kept: %v, Kept = %d; want %v", l, f.Kept(), want)
	}
}

// P5.1: every byte and every window of files of all kinds of pages; what is answered is what stands in the file.
func TestEveryWindow(t *testing.T) {
	for n := range 14 {
		base := letters(n)
		for size := 1; size <= 15; size++ {
			for _, most := range []int{1, 2, 20} {
				f, _ := open(t, base, size, most)
				if f.Len() != n {
					t.Fatalf("%d by %d: Len = %d", n, size, f.Len())
				}
				for from := range n + 1 {
					for to := from; to <= n; to++ {
						wantBytes(t, f, from, to, string(base[from:to]))
					}
				}
				for i, c := range base {
					wantAt(t, f, i, c)
				}
			}
		}
	}
}

// P5.1: the whole file, and its ends, of files and pages at their bounds.
func TestGreatFiles(t *testing.T) {
	for _, n := range []int{511, 512, 513, 1023, 1024, 1025, 3999, api.MaxBase} {
		base := letters(n)
		for _, size := range []int{1, 2, 3, 255, 256, 300, 511, api.MaxPage} {
			for _, most := range []int{1, 3, math.MaxInt} {
				f, p := open(t, base, size, most)
				wantBytes(t, f, 0, n, string(base))
				if len(p.Reads()) != p.Count() || f.Kept() != min(most, p.Count()) {
					t.Errorf("%d by %d: %d reads, %d kept", n, size, len(p.Reads()), f.Kept())
				}
				wantAt(t, f, 0, base[0])
				wantAt(t, f, n-1, base[n-1])
				wantBytes(t, f, n-1, n, string(base[n-1:]))
			}
		}
	}
}

// P5.1: a byte's page is found where the counts of bytes and pages leave the size open: ten bytes in two pages are of any size from 5 to 9.
func TestOnlyTheBytesPageIsRead(t *testing.T) {
	for n := 1; n <= 40; n++ {
		base := letters(n)
		for size := 1; size <= 41; size++ {
			for i := range n {
				f, p := open(t, base, size, 2)
				wantAt(t, f, i, base[i])
				wantReads(t, p, i/size)
				wantKept(t, f, i/size)
			}
		}
	}
}

// P5.1: no such byte, and no such window: ErrArg, and nothing is read, used or gone.
func TestNotInTheFile(t *testing.T) {
	f, p := ten(t, 2)
	p.Fault([]int{2})
	check := func() {
		t.Helper()
		for _, i := range []int{-1, -2, -10, 10, 11, 12, 4000, math.MaxInt, math.MaxInt - 1, math.MinInt, math.MinInt + 1, 1 << 32, -1 << 32} {
			wantNotAt(t, f, i, api.ErrArg)
		}
		for _, w := range [][2]int{
			{3, 2}, {10, 9}, {1, 0}, {10, 0}, {7, 6}, {-1, 0}, {-1, -1}, {-1, 2}, {-1, 10}, {-3, -2}, {0, -1}, {3, -1},
			{0, 11}, {9, 11}, {10, 11}, {11, 11}, {12, 12}, {11, 10}, {11, 12}, {-1, 11},
			{0, math.MaxInt}, {math.MaxInt, math.MaxInt}, {math.MinInt, math.MinInt}, {math.MinInt, math.MaxInt}, {math.MaxInt, math.MinInt},
			{math.MinInt, 0}, {math.MinInt, 5}, {5, math.MinInt}, {math.MaxInt, 0}, {0, 1 << 32}, {1 << 32, 1 << 32},
		} {
			wantNoBytes(t, f, w[0], w[1], api.ErrArg)
		}
	}
	check()
	wantReads(t, p)
	wantKept(t, f)
	wantAt(t, f, 0, 'a')
	wantAt(t, f, 9, 'j')
	check()
	wantReads(t, p, 0, 3)
	wantKept(t, f, 3, 0)
}

// P5.1: the empty window, wherever it is: nothing, without an error; nothing is read, nothing was used.
func TestEmptyWindow(t *testing.T) {
	f, p := ten(t, 2)
	p.Fault([]int{0, 1, 2, 3})
	for at := range 11 {
		wantBytes(t, f, at, at, "")
	}
	wantReads(t, p)
	wantKept(t, f)
	p.Fault(nil)
	wantBytes(t, f, 0, 6, "abcdef")
	for at := range 11 {
		wantBytes(t, f, at, at, "")
	}
	wantReads(t, p, 0, 1)
	wantKept(t, f, 1, 0)
}

// P5.1: a file of no bytes, also of a Pages that page.New did not make: the empty window alone is in it.
func TestEmptyFile(t *testing.T) {
	none, _ := page.New(nil, 4)
	for _, p := range []*page.Pages{none, {}} {
		f := New(p, 3)
		wantBytes(t, f, 0, 0, "")
		for _, i := range []int{0, 1, -1, math.MaxInt, math.MinInt} {
			wantNotAt(t, f, i, api.ErrArg)
			wantNoBytes(t, f, 0, i|1, api.ErrArg)
		}
		wantNoBytes(t, f, 1, 1, api.ErrArg)
		f.Evict()
		wantReads(t, p)
		wantKept(t, f)
		if f.Len() != 0 {
			t.Errorf("Len = %d", f.Len())
		}
	}
}

// P5.1: New, Len, Kept and Evict read nothing.
func TestAskingReadsNothing(t *testing.T) {
	f, p := ten(t, 2)
	p.Fault([]int{0, 1, 2, 3})
	if f.Len() != 10 || f.Kept() != 0 {
		t.Errorf("Len = %d, Kept = %d", f.Len(), f.Kept())
	}
	f.Evict()
	wantReads(t, p)
}

// P5.1: what New is handed stays as it was: what is noted, and what can't be read.
func TestNewLeavesPages(t *testing.T) {
	p, _ := page.New([]byte("abcdefghij"), 3)
	p.Fault([]int{1})
	p.Read(3)
	p.Read(1)
	f := New(p, 2)
	wantReads(t, p, 3, 1)
	wantNotAt(t, f, 3, api.ErrIO)
	wantAt(t, f, 0, 'a')
	wantReads(t, p, 1, 0)
}

// P5.1: which pages a window reads, from the lowest on; bytes at the edges of pages ask for no page beyond.
func TestWindowsRead(t *testing.T) {
	for _, c := range []struct {
		from, to int
		want     []int
	}{
		{0, 1, []int{0}}, {0, 3, []int{0}}, {1, 2, []int{0}}, {2, 3, []int{0}}, {3, 6, []int{1}}, {3, 4, []int{1}}, {5, 6, []int{1}}, {6, 9, []int{2}},
		{9, 10, []int{3}}, {2, 4, []int{0, 1}}, {0, 4, []int{0, 1}}, {2, 6, []int{0, 1}}, {5, 7, []int{1, 2}}, {8, 10, []int{2, 3}},
		{2, 7, []int{0, 1, 2}}, {3, 10, []int{1, 2, 3}}, {0, 9, []int{0, 1, 2}}, {0, 10, []int{0, 1, 2, 3}}, {2, 10, []int{0, 1, 2, 3}},
	} {
		for most := 1; most <= 5; most++ {
			f, p := ten(t, most)
			wantBytes(t, f, c.from, c.to, "abcdefghij"[c.from:c.to])
			wantReads(t, p, c.want...)
			kept := slices.Clone(c.want)
			slices.Reverse(kept)
			wantKept(t, f, kept[:min(most, len(kept))]...)
		}
	}
}

// P5.1, what follows: a page that is kept is not read, also where it can't be any more; only what is missing of a window is.
func TestKeptIsNotRead(t *testing.T) {
	f, p := ten(t, 4)
	wantAt(t, f, 4, 'e')
	wantReads(t, p, 1)
	p.Fault([]int{1})
	for range 3 {
		wantAt(t, f, 3, 'd')
		wantAt(t, f, 5, 'f')
		wantBytes(t, f, 3, 6, "def")
	}
	wantReads(t, p)
	wantBytes(t, f, 1, 8, "bcdefgh")
	wantReads(t, p, 0, 2)
	wantKept(t, f, 2, 1, 0)
	wantBytes(t, f, 0, 10, "abcdefghij")
	wantReads(t, p, 3)
	p.Fault([]int{0, 1, 2, 3})
	wantBytes(t, f, 0, 10, "abcdefghij")
	wantReads(t, p)
	wantKept(t, f, 3, 2, 1, 0)
}

// P5.1: who goes is the page that was used longest ago, by a reading or out of what is kept, by At and by Bytes.
func TestWhoGoes(t *testing.T) {
	f, p := ten(t, 2)
	wantAt(t, f, 0, 'a')
	wantAt(t, f, 3, 'd')
	wantAt(t, f, 1, 'b')
	wantAt(t, f, 6, 'g')
	wantReads(t, p, 0, 1, 2)
	wantKept(t, f, 2, 0)
	wantBytes(t, f, 1, 3, "bc")
	wantBytes(t, f, 9, 10, "j")
	wantReads(t, p, 3)
	wantKept(t, f, 3, 0)
	wantAt(t, f, 2, 'c')
	wantReads(t, p)
	wantAt(t, f, 6, 'g')
	wantReads(t, p, 2)
	wantKept(t, f, 2, 0)
}

// P5.1: pages of a window were used in its order, those that were kept and those that were read.
func TestOrderOfUse(t *testing.T) {
	f, p := ten(t, 3)
	for _, i := range []int{9, 6, 0} {
		f.At(i)
	}
	wantKept(t, f, 0, 2, 3)
	wantBytes(t, f, 6, 10, "ghij")
	wantKept(t, f, 3, 2, 0)
	wantReads(t, p, 3, 2, 0)
	// Page 2 goes for page 1, as 0 was just used, and has to be read again.
	wantBytes(t, f, 2, 7, "cdefg")
	wantReads(t, p, 1, 2)
	wantKept(t, f, 2, 1, 0)
}

// P5.1: a page that goes within a window, ahead of being asked for, is read again.
func TestWindowAboveMost(t *testing.T) {
	f, p := ten(t, 2)
	for range 3 {
		wantBytes(t, f, 0, 10, "abcdefghij")
		wantReads(t, p, 0, 1, 2, 3)
		wantKept(t, f, 3, 2)
	}
	wantBytes(t, f, 3, 10, "defghij")
	wantReads(t, p, 1, 2, 3)
	wantBytes(t, f, 6, 10, "ghij")
	wantReads(t, p)
}

// P5.1: most below 1 is as 1.
func TestMostBelowOne(t *testing.T) {
	for _, most := range []int{1, 0, -1, -64, math.MinInt} {
		f, p := ten(t, most)
		wantAt(t, f, 0, 'a')
		wantAt(t, f, 2, 'c')
		wantReads(t, p, 0)
		wantBytes(t, f, 2, 7, "cdefg")
		wantReads(t, p, 1, 2)
		wantKept(t, f, 2)
		wantAt(t, f, 0, 'a')
		wantReads(t, p, 0)
		wantKept(t, f, 0)
	}
}

// P5.1: most above the pages that there are: each is read once.
func TestGreatMost(t *testing.T) {
	for _, most := range []int{4, 5, api.MaxCache, math.MaxInt32, math.MaxInt} {
		f, p := ten(t, most)
		for range 3 {
			for i := range 10 {
				wantAt(t, f, 9-i, "abcdefghij"[9-i])
			}
			wantBytes(t, f, 0, 10, "abcdefghij")
		}
		wantReads(t, p, 3, 2, 1, 0)
		wantKept(t, f, 3, 2, 1, 0)
	}
}

// P5.1: a page that can't be read: ErrIO, it is noted, not kept, and none goes for it; those that were read ahead of it are kept, those behind it are not asked for.
func TestFault(t *testing.T) {
	for _, c := range []struct {
		faults, reads, kept []int
	}{
		{[]int{0}, []int{0}, nil},
		{[]int{1}, []int{0, 1}, []int{0}},
		{[]int{2}, []int{0, 1, 2}, []int{1, 0}},
		{[]int{3}, []int{0, 1, 2, 3}, []int{2, 1, 0}},
		{[]int{3, 1}, []int{0, 1}, []int{0}},
		{[]int{3, 2, 1, 0}, []int{0}, nil},
	} {
		for most := 1; most <= 4; most++ {
			f, p := ten(t, most)
			p.Fault(c.faults)
			wantNoBytes(t, f, 0, 10, api.ErrIO)
			wantReads(t, p, c.reads...)
			wantKept(t, f, c.kept[:min(most, len(c.kept))]...)
		}
	}
}

// P5.1: a page that can't be read is asked for again each time, until it can be; what is kept is told all along.
func TestFaultAndWellAgain(t *testing.T) {
	f, p := ten(t, 2)
	wantBytes(t, f, 0, 6, "abcdef")
	wantReads(t, p, 0, 1)
	p.Fault([]int{2})
	for range 2 {
		wantNotAt(t, f, 6, api.ErrIO)
		wantNotAt(t, f, 8, api.ErrIO)
		wantNoBytes(t, f, 7, 8, api.ErrIO)
	}
	wantReads(t, p, 2, 2, 2, 2, 2, 2)
	wantKept(t, f, 1, 0)
	wantBytes(t, f, 0, 6, "abcdef")
	wantReads(t, p)
	p.Fault(nil)
	wantBytes(t, f, 2, 9, "cdefghi")
	wantReads(t, p, 2)
	wantKept(t, f, 2, 1)
	p.Fault([]int{2})
	wantAt(t, f, 6, 'g')
	wantReads(t, p)
}

// P5.1: kept pages ahead of one that can't be read were asked for, and so were used last; those behind it were not.
func TestFaultAndUse(t *testing.T) {
	f, p := ten(t, 3)
	for _, i := range []int{0, 9, 3} {
		f.At(i)
	}
	wantKept(t, f, 1, 3, 0)
	p.Fault([]int{2})
	wantNoBytes(t, f, 0, 10, api.ErrIO)
	wantKept(t, f, 1, 0, 3)
	wantReads(t, p, 0, 3, 1, 2)
	p.Fault(nil)
	wantAt(t, f, 6, 'g')
	wantKept(t, f, 2, 1, 0)
}

// P5.1: a page that went for one that was read ahead of the fault is gone.
func TestFaultAndGone(t *testing.T) {
	f, p := ten(t, 2)
	wantBytes(t, f, 6, 10, "ghij")
	p.Fault([]int{1})
	wantNoBytes(t, f, 0, 10, api.ErrIO)
	wantReads(t, p, 2, 3, 0, 1)
	wantKept(t, f, 0, 3)
}

// P5.1: a window that is not in the file is ErrArg, though no page could be read.
func TestArgumentsAheadOfFaults(t *testing.T) {
	f, p := ten(t, 2)
	p.Fault([]int{0, 1, 2, 3})
	wantNoBytes(t, f, 0, 11, api.ErrArg)
	wantNoBytes(t, f, 4, 3, api.ErrArg)
	wantNotAt(t, f, 10, api.ErrArg)
	wantReads(t, p)
	wantNotAt(t, f, 9, api.ErrIO)
}

// P5.1: Evict: none is kept any more, and what is asked for is read anew; most stays, and what was used ahead of it counts no more.
func TestEvict(t *testing.T) {
	f, p := ten(t, 2)
	f.Evict()
	wantKept(t, f)
	for range 3 {
		wantBytes(t, f, 0, 6, "abcdef")
		wantReads(t, p, 0, 1)
		f.Evict()
		f.Evict()
		wantKept(t, f)
		if f.Len() != 10 {
			t.Errorf("Len = %d", f.Len())
		}
		wantAt(t, f, 4, 'e')
		wantReads(t, p, 1)
		wantKept(t, f, 1)
		wantAt(t, f, 0, 'a')
		wantAt(t, f, 9, 'j')
		wantReads(t, p, 0, 3)
		wantKept(t, f, 3, 0)
		f.Evict()
	}
	wantAt(t, f, 0, 'a')
	p.Fault([]int{0})
	wantAt(t, f, 0, 'a')
	f.Evict()
	wantNotAt(t, f, 0, api.ErrIO)
	wantKept(t, f)
}

// P5.1: of a nil File, and one of nil pages: ErrArg, 0, also of the empty window.
func TestNoFile(t *testing.T) {
	for _, f := range []*File{nil, New(nil, 3), New(nil, 0), {}} {
		for range 2 {
			for _, i := range []int{0, 1, -1, math.MaxInt, math.MinInt} {
				wantNotAt(t, f, i, api.ErrArg)
				for _, to := range []int{0, 1, -1, math.MaxInt, math.MinInt} {
					wantNoBytes(t, f, i, to, api.ErrArg)
				}
			}
			if f.Len() != 0 || f.Kept() != 0 {
				t.Errorf("Len = %d, Kept = %d", f.Len(), f.Kept())
			}
			f.Evict()
		}
	}
}

// R1: a panic that is no page's error is caught too, and is not told as a page that can't be read.
func TestOtherPanics(t *testing.T) {
	f, _ := ten(t, 2)
	f.kept.Put(0, nil)
	wantNotAt(t, f, 1, api.ErrArg)
	wantNoBytes(t, f, 0, 5, api.ErrArg)
	wantAt(t, f, 3, 'd')
}

// R3: what is told is new memory, its spare room too: spoiling it spoils neither what is kept nor the pages, nor another answer.
func TestNewMemory(t *testing.T) {
	f, p := ten(t, 4)
	windows := [][2]int{{0, 3}, {3, 4}, {0, 10}, {2, 7}, {9, 10}, {0, 0}, {4, 4}, {10, 10}}
	for range 2 {
		for _, w := range windows {
			b, _ := f.Bytes(w[0], w[1])
			other, _ := f.Bytes(w[0], w[1])
			spoil(b)
			if string(other) != "abcdefghij"[w[0]:w[1]] {
				t.Errorf("%v: another answer is %q now", w, other)
			}
			wantBytes(t, f, 0, 10, "abcdefghij")
		}
	}
	f.Evict()
	wantBytes(t, f, 0, 10, "abcdefghij")
	wantReads(t, p, 0, 1, 2, 3, 0, 1, 2, 3)
}

func spoil(b []byte) {
	b = b[:cap(b)]
	for i := range b {
		b[i] = '!'
	}
}

// R4: two files of the same pages keep their own, and read for themselves.
func TestFilesStandAlone(t *testing.T) {
	f, p := ten(t, 2)
	g := New(p, 1)
	wantAt(t, f, 0, 'a')
	wantAt(t, g, 0, 'a')
	wantReads(t, p, 0, 0)
	wantAt(t, g, 9, 'j')
	wantKept(t, f, 0)
	wantKept(t, g, 3)
	f.Evict()
	wantAt(t, g, 9, 'j')
	wantReads(t, p, 3)
	wantKept(t, g, 3)
}

// plain is a file as the promise has it: what is kept is a list of pages, who was used last first.
type plain struct {
	base       []byte
	size, most int
	faults     []int
	kept       []int
	reads      []int
}

// ask has page i be used last, and tells whether it can be.
func (m *plain) ask(i int) bool {
	at := slices.Index(m.kept, i)
	if at >= 0 {
		m.kept = slices.Delete(m.kept, at, at+1)
	} else {
		m.reads = append(m.reads, i)
		if slices.Contains(m.faults, i) {
			return false
		}
	}
	m.kept = append([]int{i}, m.kept...)
	m.kept = m.kept[:min(len(m.kept), max(m.most, 1))]
	return true
}

func (m *plain) bytes(from, to int) ([]byte, api.Errno) {
	if from < 0 || from > to || to > len(m.base) {
		return nil, api.ErrArg
	}
	for i := 0; i*m.size < len(m.base); i++ {
		touches := from < to && from < (i+1)*m.size && to > i*m.size
		if touches && !m.ask(i) {
			return nil, api.ErrIO
		}
	}
	return m.base[from:to], api.OK
}

// check holds all that both tell against each other.
func check(t *testing.T, f *File, p *page.Pages, m *plain) {
	t.Helper()
	if l := p.Reads(); !slices.Equal(l, m.reads) {
		t.Fatalf("%+v: read: %v", m, l)
	}
	if l := f.kept.Keys(); !slices.Equal(l, m.kept) || f.Kept() != len(m.kept) {
		t.Fatalf("%+v: kept: %v, Kept = %d", m, l, f.Kept())
	}
	if f.Len() != len(m.base) {
		t.Fatalf("%+v: Len = %d", m, f.Len())
	}
}

func stepBytes(t *testing.T, f *File, p *page.Pages, m *plain, from, to int) {
	t.Helper()
	b, e := f.Bytes(from, to)
	if want, no := m.bytes(from, to); !bytes.Equal(b, want) || e != no {
		t.Fatalf("%+v: Bytes(%d, %d) = %q, %d; want %q, %d", m, from, to, b, e, want, no)
	}
	check(t, f, p, m)
}

func stepAt(t *testing.T, f *File, p *page.Pages, m *plain, i int) {
	t.Helper()
	c, e := f.At(i)
	want, no := m.bytes(i, i+1)
	if e != no || no == api.OK && c != want[0] || no != api.OK && c != 0 {
		t.Fatalf("%+v: At(%d) = %q, %d; want %q, %d", m, i, c, e, want, no)
	}
	check(t, f, p, m)
}

// P5.1: every short run of windows over three pages of which the middle one falls ill and is well again, held against the plain file.
func TestShortRuns(t *testing.T) {
	windows := [][2]int{{0, 1}, {1, 3}, {3, 4}, {4, 5}, {1, 4}, {3, 5}, {0, 5}, {2, 2}}
	calls := len(windows) + 3
	for most := 1; most <= 3; most++ {
		for run := range calls * calls * calls * calls {
			base := []byte("hello")
			f, p := open(t, base, 2, most)
			m := &plain{base: base, size: 2, most: most}
			for range 4 {
				call := run % calls
				run /= calls
				switch call - len(windows) {
				case 0:
					m.kept = nil
					f.Evict()
				case 1:
					m.faults = []int{1}
					p.Fault(m.faults)
				case 2:
					m.faults = nil
					p.Fault(nil)
				default:
					stepBytes(t, f, p, m, windows[call][0], windows[call][1])
				}
			}
			check(t, f, p, m)
		}
	}
}

// P5.1: long runs of calls, held against the plain file.
func TestLongRuns(t *testing.T) {
	r := rand.New(rand.NewSource(5))
	for range 400 {
		base := letters(r.Intn(60))
		m := &plain{base: base, size: 1 + r.Intn(20), most: r.Intn(9) - 1}
		f, p := open(t, base, m.size, m.most)
		for range 150 {
			step(t, r, f, p, m)
		}
	}
}

func step(t *testing.T, r *rand.Rand, f *File, p *page.Pages, m *plain) {
	t.Helper()
	n := len(m.base)
	switch r.Intn(30) {
	case 0:
		m.kept = nil
		f.Evict()
	case 1, 2:
		m.faults = nil
		for range r.Intn(4) {
			m.faults = append(m.faults, r.Intn(12)-1)
		}
		p.Fault(m.faults)
	case 3:
		m.reads = nil
		p.Clear()
	case 4:
		stepBytes(t, f, p, m, r.Intn(n+5)-2, r.Intn(n+5)-2)
	case 5, 6, 7, 8, 9, 10:
		from := r.Intn(n + 1)
		stepBytes(t, f, p, m, from, from+r.Intn(n-from+1))
	default:
		stepAt(t, f, p, m, r.Intn(n+2)-1)
	}
	check(t, f, p, m)
}

package doc

import (
	"math"
	"math/rand"
	"slices"
	"strings"
	"testing"

	"eyot/api"
	"eyot/file"
	"eyot/page"
	"eyot/piece"
)

// parts are a Doc and what it stands on.
type parts struct {
	doc  *Doc
	text *piece.Text
	file *file.File
	page *page.Pages
}

// open is the text of the file base, in pages of size, of which at most most are kept.
func open(t *testing.T, base string, size, most int) parts {
	t.Helper()
	p, e := page.New([]byte(base), size)
	if e != api.OK {
		t.Fatalf("page.New(%d bytes, %d): %d", len(base), size, e)
	}
	f := file.New(p, most)
	x := piece.New(len(base))
	d := New(f, x)
	if d == nil {
		t.Fatal("New: nil")
	}
	return parts{d, x, f, p}
}

// ten is a file of ten bytes in pages 0: abc, 1: def, 2: ghi, 3: j.
func ten(t *testing.T, most int) parts {
	t.Helper()
	return open(t, "abcdefghij", 3, most)
}

// mixed is that file under the text ab XY cd Z ghij: of page 0, added, of pages 0 and 1, added, of pages 2 and 3.
func mixed(t *testing.T, most int) parts {
	t.Helper()
	o := ten(t, most)
	o.edit(t, 2, 2, "XY")
	o.edit(t, 6, 8, "Z")
	want := []api.Piece{{To: 2}, {Added: true, To: 2}, {From: 2, To: 4}, {Added: true, From: 2, To: 3}, {From: 6, To: 10}}
	if l := o.text.Pieces(); !slices.Equal(l, want) {
		t.Fatalf("pieces: %v; want %v", l, want)
	}
	return o
}

const mixedText = "abXYcdZghij"

// edit is an edit that has to be fine.
func (o parts) edit(t *testing.T, a, b int, s string) {
	t.Helper()
	if e := o.text.Edit(a, b, []byte(s)); e != api.OK {
		t.Fatalf("Edit(%d, %d, %q) = %d", a, b, s, e)
	}
}

func wantBytes(t *testing.T, d *Doc, from, to int, want string) {
	t.Helper()
	if b, e := d.Bytes(from, to); string(b) != want || e != api.OK {
		t.Errorf("Bytes(%d, %d) = %q, %d; want %q", from, to, b, e, want)
	}
}

func wantAt(t *testing.T, d *Doc, i int, want byte) {
	t.Helper()
	if c, e := d.At(i); c != want || e != api.OK {
		t.Errorf("At(%d) = %q, %d; want %q", i, c, e, want)
	}
}

func wantNoBytes(t *testing.T, d *Doc, from, to int, want api.Errno) {
	t.Helper()
	if b, e := d.Bytes(from, to); len(b) != 0 || e != want {
		t.Errorf("Bytes(%d, %d) = %q, %d; want nothing, %d", from, to, b, e, want)
	}
}

func wantNotAt(t *testing.T, d *Doc, i int, want api.Errno) {
	t.Helper()
	if c, e := d.At(i); c != 0 || e != want {
		t.Errorf("At(%d) = %q, %d; want 0, %d", i, c, e, want)
	}
}

// wantReads: these pages were read since it was asked last.
func wantReads(t *testing.T, o parts, want ...int) {
	t.Helper()
	if l := o.page.Reads(); !slices.Equal(l, want) {
		t.Errorf("read: %v; want %v", l, want)
	}
	o.page.Clear()
}

// wantText: the text is this one: its length, every byte, every window.
func wantText(t *testing.T, d *Doc, want string) {
	t.Helper()
	if d.Len() != len(want) {
		t.Errorf("Len = %d; want %d", d.Len(), len(want))
	}
	for from := range len(want) + 1 {
		for to := from; to <= len(want); to++ {
			wantBytes(t, d, from, to, want[from:to])
		}
	}
	for i := range want {
		wantAt(t, d, i, want[i])
	}
	wantNotAt(t, d, len(want), api.ErrArg)
	wantNoBytes(t, d, 0, len(want)+1, api.ErrArg)
}

// P7.1: a text without edits is the file.
func TestNoEdits(t *testing.T) {
	for n := range 11 {
		base := "abcdefghij"[:n]
		for size := 1; size <= 11; size++ {
			for most := 1; most <= 3; most++ {
				wantText(t, open(t, base, size, most).doc, base)
			}
		}
	}
}

// P7.1: one edit: at the front, within, at the end, of nothing, over all of the text.
func TestOneEdit(t *testing.T) {
	for _, c := range []struct {
		a, b    int
		s, want string
	}{
		{0, 0, "XY", "XYabcdefghij"}, {0, 2, "", "cdefghij"}, {0, 1, "X", "Xbcdefghij"}, {0, 3, "XY", "XYdefghij"},
		{4, 4, "XY", "abcdXYefghij"}, {4, 6, "", "abcdghij"}, {3, 5, "XYZ", "abcXYZfghij"}, {3, 6, "X", "abcXghij"},
		{10, 10, "XY", "abcdefghijXY"}, {8, 10, "", "abcdefgh"}, {9, 10, "X", "abcdefghiX"},
		{0, 10, "XY", "XY"}, {0, 10, "", ""}, {5, 5, "", "abcdefghij"}, {0, 0, "", "abcdefghij"},
	} {
		for size := 1; size <= 11; size++ {
			o := open(t, "abcdefghij", size, 2)
			o.edit(t, c.a, c.b, c.s)
			wantText(t, o.doc, c.want)
		}
	}
}

// P7.1: edits behind edits: over several pieces of both kinds, within added pieces, at their edges, over all of the text.
func TestManyEdits(t *testing.T) {
	for most := 1; most <= 4; most++ {
		o := mixed(t, most)
		wantText(t, o.doc, mixedText)
		o.edit(t, 3, 3, "pq")
		wantText(t, o.doc, "abXpqYcdZghij")
		o.edit(t, 4, 9, "rs")
		wantText(t, o.doc, "abXprsghij")
		o.edit(t, 0, 1, "T")
		wantText(t, o.doc, "TbXprsghij")
		o.edit(t, 10, 10, "UV")
		wantText(t, o.doc, "TbXprsghijUV")
		o.edit(t, 2, 6, "")
		wantText(t, o.doc, "TbghijUV")
		o.edit(t, 1, 7, "")
		wantText(t, o.doc, "TV")
		o.edit(t, 0, 2, "all")
		wantText(t, o.doc, "all")
		o.edit(t, 0, 3, "")
		wantText(t, o.doc, "")
		o.edit(t, 0, 0, "anew")
		wantText(t, o.doc, "anew")
	}
}

// P7.1: what was added and is no more in the text is not told; what was added first may stand last.
func TestAddedOutOfOrder(t *testing.T) {
	o := ten(t, 2)
	o.edit(t, 10, 10, "one")
	o.edit(t, 5, 5, "two")
	o.edit(t, 0, 0, "three")
	wantText(t, o.doc, "threeabcdetwofghijone")
	o.edit(t, 10, 13, "")
	wantText(t, o.doc, "threeabcdefghijone")
	o.edit(t, 1, 4, "")
	wantText(t, o.doc, "teabcdefghijone")
}

// P7.1: great texts: a file, pages and pieces at their bounds.
func TestGreatTexts(t *testing.T) {
	for _, size := range []int{1, 3, 511, api.MaxPage} {
		base := strings.Repeat("0123456789", api.MaxBase/10)
		o := open(t, base, size, 2)
		want := base
		for i := range 200 {
			at := (i * 1237) % (len(want) - 5)
			s := strings.Repeat(string(rune('a'+i%26)), i*3%(api.MaxInsert+1))
			if i%50 == 49 {
				s = strings.Repeat("!", api.MaxInsert)
			}
			o.edit(t, at, at+5, s)
			want = want[:at] + s + want[at+5:]
		}
		wantBytes(t, o.doc, 0, len(want), want)
		for at := 0; at+700 < len(want); at += 331 {
			wantBytes(t, o.doc, at, at+700, want[at:at+700])
			wantAt(t, o.doc, at, want[at])
		}
		wantAt(t, o.doc, len(want)-1, want[len(want)-1])
		wantNotAt(t, o.doc, len(want), api.ErrArg)
	}
}

// P7.1: no such byte, and no such window, by the text's length, not by the file's: ErrArg, and nothing is read.
func TestNotInTheText(t *testing.T) {
	short, long := ten(t, 2), ten(t, 2)
	short.edit(t, 2, 8, "XY")
	long.edit(t, 5, 5, "VWXYZ")
	for _, o := range []parts{ten(t, 2), mixed(t, 2), short, long} {
		n := o.text.Len()
		o.page.Fault([]int{0, 1, 2, 3})
		for _, i := range []int{-1, -2, -n, n, n + 1, 4000, math.MaxInt, math.MaxInt - 1, math.MinInt, math.MinInt + 1, 1 << 32, -1 << 32} {
			wantNotAt(t, o.doc, i, api.ErrArg)
		}
		for _, w := range [][2]int{
			{3, 2}, {n, n - 1}, {1, 0}, {n, 0}, {-1, 0}, {-1, -1}, {-1, 2}, {-1, n}, {-3, -2}, {0, -1}, {3, -1},
			{0, n + 1}, {n - 1, n + 1}, {n, n + 1}, {n + 1, n + 1}, {n + 2, n + 2}, {n + 1, n}, {-1, n + 1},
			{0, math.MaxInt}, {math.MaxInt, math.MaxInt}, {math.MinInt, math.MinInt}, {math.MinInt, math.MaxInt}, {math.MaxInt, math.MinInt},
			{math.MinInt, 0}, {math.MinInt, 5}, {5, math.MinInt}, {math.MaxInt, 0}, {0, 1 << 32}, {1 << 32, 1 << 32},
		} {
			wantNoBytes(t, o.doc, w[0], w[1], api.ErrArg)
		}
		wantReads(t, o)
		if o.file.Kept() != 0 || o.doc.Len() != n {
			t.Errorf("Kept = %d, Len = %d", o.file.Kept(), o.doc.Len())
		}
	}
}

// P7.1: the empty window, within pieces, between them and at the ends: nothing, without an error; nothing is read.
func TestEmptyWindow(t *testing.T) {
	o := mixed(t, 2)
	o.page.Fault([]int{0, 1, 2, 3})
	for at := range len(mixedText) + 1 {
		wantBytes(t, o.doc, at, at, "")
	}
	wantReads(t, o)
	if o.file.Kept() != 0 {
		t.Errorf("Kept = %d", o.file.Kept())
	}
}

// P7.1, example: bytes of added pieces alone: nothing is read, and they are told though no page can be.
func TestAddedAlone(t *testing.T) {
	o := mixed(t, 2)
	o.page.Fault([]int{0, 1, 2, 3})
	wantBytes(t, o.doc, 2, 4, "XY")
	wantBytes(t, o.doc, 2, 3, "X")
	wantBytes(t, o.doc, 3, 4, "Y")
	wantBytes(t, o.doc, 6, 7, "Z")
	wantAt(t, o.doc, 2, 'X')
	wantAt(t, o.doc, 3, 'Y')
	wantAt(t, o.doc, 6, 'Z')
	wantReads(t, o)
	o.edit(t, 4, 6, "")
	wantBytes(t, o.doc, 2, 5, "XYZ")
	wantReads(t, o)
	o.edit(t, 0, o.text.Len(), "new")
	wantText(t, o.doc, "new")
	wantReads(t, o)
}

// P7.1, what follows: a window reads pages alone that hold bytes of it, pieces in order.
func TestWindowsRead(t *testing.T) {
	for _, c := range []struct {
		from, to int
		want     []int
	}{
		{0, 1, []int{0}}, {0, 2, []int{0}}, {1, 3, []int{0}}, {0, 4, []int{0}}, {2, 4, nil}, {3, 5, []int{0}}, {4, 5, []int{0}}, {5, 6, []int{1}}, {4, 6, []int{0, 1}},
		{5, 7, []int{1}}, {6, 7, nil}, {6, 8, []int{2}}, {7, 10, []int{2}}, {9, 11, []int{2, 3}}, {10, 11, []int{3}}, {5, 8, []int{1, 2}}, {3, 8, []int{0, 1, 2}},
		{0, 6, []int{0, 1}}, {2, 7, []int{0, 1}}, {6, 11, []int{2, 3}}, {0, 11, []int{0, 1, 2, 3}},
	} {
		for most := 1; most <= 5; most++ {
			o := mixed(t, most)
			wantBytes(t, o.doc, c.from, c.to, mixedText[c.from:c.to])
			wantReads(t, o, c.want...)
			if o.file.Kept() != min(most, len(c.want)) {
				t.Errorf("%d to %d: Kept = %d", c.from, c.to, o.file.Kept())
			}
		}
	}
}

// P7.1: a byte reads its own page alone.
func TestByteReads(t *testing.T) {
	pages := []int{0, 0, -1, -1, 0, 1, -1, 2, 2, 2, 3}
	for i, want := range pages {
		o := mixed(t, 2)
		wantAt(t, o.doc, i, mixedText[i])
		if want < 0 {
			wantReads(t, o)
		} else {
			wantReads(t, o, want)
		}
	}
}

// P7.1, what follows: pages of which all bytes are out of the text are never read.
func TestGonePagesAreNotRead(t *testing.T) {
	o := ten(t, 4)
	o.edit(t, 2, 9, "")
	o.page.Fault([]int{1, 2})
	wantText(t, o.doc, "abj")
	wantReads(t, o, 0, 3)
}

// P7.1: New and Len read nothing; nor does an edit.
func TestAskingReadsNothing(t *testing.T) {
	o := mixed(t, 2)
	o.page.Fault([]int{0, 1, 2, 3})
	d := New(o.file, o.text)
	if d.Len() != len(mixedText) || o.doc.Len() != len(mixedText) {
		t.Errorf("Len = %d, %d", d.Len(), o.doc.Len())
	}
	wantReads(t, o)
}

// P7.1: what the file keeps is not read again, also for another piece of the same page; of few that are kept the file's order holds.
func TestKeptIsNotRead(t *testing.T) {
	o := mixed(t, 1)
	wantBytes(t, o.doc, 0, 5, "abXYc")
	wantReads(t, o, 0)
	o.page.Fault([]int{0})
	wantAt(t, o.doc, 4, 'c')
	wantBytes(t, o.doc, 0, 5, "abXYc")
	wantReads(t, o)
	wantAt(t, o.doc, 5, 'd')
	wantReads(t, o, 1)
	wantNoBytes(t, o.doc, 0, 5, api.ErrIO)
	wantReads(t, o, 0)
	o.file.Evict()
	wantBytes(t, o.doc, 5, 8, "dZg")
	wantReads(t, o, 1, 2)
}

// P7.1: a page that can't be read: ahead of what is asked for, and behind it, it is none of its business; within, it is ErrIO, and none behind it is asked for.
func TestFault(t *testing.T) {
	for _, c := range []struct {
		faults   []int
		from, to int
		want     api.Errno
		reads    []int
	}{
		{[]int{0}, 5, 11, api.OK, []int{1, 2, 3}},
		{[]int{0}, 2, 4, api.OK, nil},
		{[]int{0}, 1, 4, api.ErrIO, []int{0}},
		{[]int{0}, 2, 5, api.ErrIO, []int{0}},
		{[]int{0}, 0, 11, api.ErrIO, []int{0}},
		{[]int{1}, 0, 5, api.OK, []int{0}},
		{[]int{1}, 6, 11, api.OK, []int{2, 3}},
		{[]int{1}, 0, 6, api.ErrIO, []int{0, 1}},
		{[]int{1}, 5, 11, api.ErrIO, []int{1}},
		{[]int{1, 0}, 0, 11, api.ErrIO, []int{0}},
		{[]int{2}, 0, 7, api.OK, []int{0, 1}},
		{[]int{2}, 10, 11, api.OK, []int{3}},
		{[]int{2}, 6, 8, api.ErrIO, []int{2}},
		{[]int{2}, 0, 11, api.ErrIO, []int{0, 1, 2}},
		{[]int{3}, 0, 10, api.OK, []int{0, 1, 2}},
		{[]int{3}, 9, 11, api.ErrIO, []int{2, 3}},
		{[]int{3, 2}, 0, 11, api.ErrIO, []int{0, 1, 2}},
	} {
		for most := 1; most <= 4; most++ {
			o := mixed(t, most)
			o.page.Fault(c.faults)
			if c.want == api.OK {
				wantBytes(t, o.doc, c.from, c.to, mixedText[c.from:c.to])
			} else {
				wantNoBytes(t, o.doc, c.from, c.to, c.want)
			}
			wantReads(t, o, c.reads...)
		}
	}
}

// P7.1: bytes of a page that can't be read are ErrIO one by one; all others are told.
func TestFaultAt(t *testing.T) {
	o := mixed(t, 4)
	o.page.Fault([]int{0, 2})
	for i := range mixedText {
		if strings.Contains("abcghi", mixedText[i:i+1]) {
			wantNotAt(t, o.doc, i, api.ErrIO)
		} else {
			wantAt(t, o.doc, i, mixedText[i])
		}
	}
}

// P7.1: pieces in order: a page that can't be read is met where its piece stands in the text; pages that were read ahead of it are kept.
func TestFaultInOrderOfPieces(t *testing.T) {
	o := mixed(t, 4)
	o.page.Fault([]int{3})
	wantNoBytes(t, o.doc, 0, 11, api.ErrIO)
	wantReads(t, o, 0, 1, 2, 3)
	o.page.Fault([]int{0, 1, 2, 3})
	wantBytes(t, o.doc, 0, 10, mixedText[:10])
	wantReads(t, o)
	wantNotAt(t, o.doc, 10, api.ErrIO)
	wantReads(t, o, 3)
}

// P7.1: behind an error the text is as it was, and is told when the page is well again.
func TestWellAgain(t *testing.T) {
	o := mixed(t, 2)
	o.page.Fault([]int{1})
	for range 2 {
		wantNoBytes(t, o.doc, 0, 11, api.ErrIO)
		wantNotAt(t, o.doc, 5, api.ErrIO)
		wantBytes(t, o.doc, 2, 4, "XY")
		if o.doc.Len() != len(mixedText) {
			t.Errorf("Len = %d", o.doc.Len())
		}
	}
	o.page.Fault(nil)
	wantText(t, o.doc, mixedText)
	o.page.Fault([]int{0, 1, 2, 3})
	o.file.Evict()
	wantNoBytes(t, o.doc, 0, 11, api.ErrIO)
	o.edit(t, 0, 11, "W")
	wantText(t, o.doc, "W")
}

// P7.1, R2: a window that is not in the text is ErrArg, though no page could be read.
func TestArgumentsAheadOfFaults(t *testing.T) {
	o := mixed(t, 2)
	o.page.Fault([]int{0, 1, 2, 3})
	wantNoBytes(t, o.doc, 0, 12, api.ErrArg)
	wantNoBytes(t, o.doc, 5, 4, api.ErrArg)
	wantNotAt(t, o.doc, 11, api.ErrArg)
	wantReads(t, o)
	wantNotAt(t, o.doc, 10, api.ErrIO)
}

// P7.1: of a nil Doc, and one with nil parts: ErrArg, 0, also of the empty window.
func TestNoDoc(t *testing.T) {
	o := mixed(t, 2)
	for _, d := range []*Doc{nil, New(nil, o.text), New(o.file, nil), New(nil, nil), {}} {
		for range 2 {
			for _, i := range []int{0, 1, 2, -1, math.MaxInt, math.MinInt} {
				wantNotAt(t, d, i, api.ErrArg)
				for _, to := range []int{0, 1, 3, -1, math.MaxInt, math.MinInt} {
					wantNoBytes(t, d, i, to, api.ErrArg)
				}
			}
			if d.Len() != 0 {
				t.Errorf("Len = %d", d.Len())
			}
		}
	}
	wantReads(t, o)
}

// P7.1: an empty file, also one of no pages, and an empty text, also one that piece.New did not make: the empty window alone is in it, until something is added.
func TestEmptyFile(t *testing.T) {
	for _, f := range []*file.File{open(t, "", 4, 2).file, file.New(&page.Pages{}, 2), file.New(nil, 2), {}} {
		for _, x := range []*piece.Text{piece.New(0), piece.New(-3), {}} {
			d := New(f, x)
			wantText(t, d, "")
			wantNoBytes(t, d, 1, 1, api.ErrArg)
			wantNotAt(t, d, 0, api.ErrArg)
			x.Edit(0, 0, []byte("abc"))
			x.Edit(1, 2, []byte("XY"))
			wantText(t, d, "aXYc")
		}
	}
}

// P7.1: a text of which all is gone, over a file that is not empty.
func TestEmptyText(t *testing.T) {
	o := ten(t, 2)
	o.edit(t, 0, 10, "")
	o.page.Fault([]int{0, 1, 2, 3})
	wantText(t, o.doc, "")
	wantReads(t, o)
	o.edit(t, 0, 0, "X")
	wantText(t, o.doc, "X")
	wantReads(t, o)
}

// R1: of a file that is shorter than the text was made for nothing is promised, but each call ends, and none panics.
func TestFileThatDoesNotFit(t *testing.T) {
	o := ten(t, 2)
	for _, n := range []int{11, 1 << 40, math.MaxInt} {
		d := New(o.file, piece.New(n))
		wantBytes(t, d, 0, 10, "abcdefghij")
		wantNoBytes(t, d, 0, n, api.ErrArg)
		wantNotAt(t, d, n-1, api.ErrArg)
	}
	x := piece.New(math.MaxInt)
	x.Edit(0, 0, []byte("XYZ"))
	New(o.file, x).Bytes(0, 3)
	for _, f := range []*file.File{file.New(nil, 2), {}} {
		wantNoBytes(t, New(f, piece.New(4)), 0, 4, api.ErrArg)
	}
}

// R1: a panic that is not the file's is not told as a page that can't be read.
func TestOtherPanics(t *testing.T) {
	for why, want := range map[any]api.Errno{"other": api.ErrArg, 11: api.ErrArg, api.ErrIO: api.ErrIO, api.ErrArg: api.ErrArg} {
		if e := errnoOf(why); e != want {
			t.Errorf("%v: %d; want %d", why, e, want)
		}
	}
}

// R3: what is told is new memory, its spare room too: spoiling it spoils neither the text, nor the file, nor another answer.
func TestNewMemory(t *testing.T) {
	o := mixed(t, 4)
	for range 2 {
		for from := range len(mixedText) + 1 {
			for to := from; to <= len(mixedText); to++ {
				b, _ := o.doc.Bytes(from, to)
				other, _ := o.doc.Bytes(from, to)
				spoil(b)
				if string(other) != mixedText[from:to] {
					t.Errorf("%d to %d: another answer is %q now", from, to, other)
				}
				wantBytes(t, o.doc, 0, len(mixedText), mixedText)
			}
		}
		o.file.Evict()
	}
	if b := o.text.Added(); string(b) != "XYZ" {
		t.Errorf("Added = %q", b)
	}
}

func spoil(b []byte) {
	b = b[:cap(b)]
	for i := range b {
		b[i] = '!'
	}
}

// R3: what New is handed stays as it was: the pieces, what is kept, what was read.
func TestPartsStay(t *testing.T) {
	o := mixed(t, 2)
	o.file.At(9)
	before := o.text.Pieces()
	d := New(o.file, o.text)
	if o.file.Kept() != 1 {
		t.Errorf("Kept = %d", o.file.Kept())
	}
	wantReads(t, o, 3)
	wantText(t, d, mixedText)
	wantNoBytes(t, d, 3, 2, api.ErrArg)
	if l := o.text.Pieces(); !slices.Equal(l, before) || string(o.text.Added()) != "XYZ" {
		t.Errorf("pieces: %v, added: %q", l, o.text.Added())
	}
	if b, e := o.file.Bytes(0, 10); string(b) != "abcdefghij" || e != api.OK {
		t.Errorf("file: %q, %d", b, e)
	}
}

// P7.1: a text and its copy over one file are edited on their own; what one reads the other finds kept.
func TestTextsOfOneFile(t *testing.T) {
	o := mixed(t, 4)
	c := o.text.Copy()
	d := New(o.file, c)
	c.Edit(0, 2, []byte("Q"))
	o.edit(t, 2, 4, "")
	wantText(t, o.doc, "abcdZghij")
	wantReads(t, o, 0, 1, 2, 3)
	o.page.Fault([]int{0, 1, 2, 3})
	wantText(t, d, "QXYcdZghij")
	wantReads(t, o)
}

// cell is a byte that knows where it comes from: its place in the file, or -1.
type cell struct {
	c  byte
	at int
}

// plain is a text over a file as the promise has it, with the file's pages that are kept, who was used last first.
type plain struct {
	text       []cell
	size, most int
	faults     []int
	kept       []int
	reads      []int
}

func plainOf(base string, size, most int) *plain {
	m := &plain{size: size, most: most}
	for i := range base {
		m.text = append(m.text, cell{base[i], i})
	}
	return m
}

func (m *plain) edit(a, b int, s string) {
	var in []cell
	for i := range s {
		in = append(in, cell{s[i], -1})
	}
	m.text = slices.Concat(m.text[:a], in, m.text[b:])
}

// ask has page i be used last, and tells whether it can be.
func (m *plain) ask(i int) bool {
	at := slices.Index(m.kept, i)
	if at >= 0 {
		m.kept = slices.Delete(m.kept, at, at+1)
	} else {
		m.reads = append(m.reads, i)
		if slices.Contains(m.faults, i) {
			return false
		}
	}
	m.kept = append([]int{i}, m.kept...)
	m.kept = m.kept[:min(len(m.kept), max(m.most, 1))]
	return true
}

func (m *plain) bytes(from, to int) (string, api.Errno) {
	if from < 0 || from > to || to > len(m.text) {
		return "", api.ErrArg
	}
	var b []byte
	for _, c := range m.text[from:to] {
		if c.at >= 0 && !m.ask(c.at/m.size) {
			return "", api.ErrIO
		}
		b = append(b, c.c)
	}
	return string(b), api.OK
}

func stepBytes(t *testing.T, o parts, m *plain, from, to int) {
	t.Helper()
	b, e := o.doc.Bytes(from, to)
	if want, no := m.bytes(from, to); string(b) != want || e != no {
		t.Fatalf("%+v: Bytes(%d, %d) = %q, %d; want %q, %d", m, from, to, b, e, want, no)
	}
	check(t, o, m)
}

func stepAt(t *testing.T, o parts, m *plain, i int) {
	t.Helper()
	c, e := o.doc.At(i)
	want, no := m.bytes(i, i+1)
	if e != no || no == api.OK && c != want[0] || no != api.OK && c != 0 {
		t.Fatalf("%+v: At(%d) = %q, %d; want %q, %d", m, i, c, e, want, no)
	}
	check(t, o, m)
}

func stepEdit(t *testing.T, o parts, m *plain, a, b int, s string) {
	t.Helper()
	o.edit(t, a, b, s)
	m.edit(a, b, s)
	check(t, o, m)
}

func check(t *testing.T, o parts, m *plain) {
	t.Helper()
	if l := o.page.Reads(); !slices.Equal(l, m.reads) {
		t.Fatalf("%+v: read: %v", m, l)
	}
	if o.doc.Len() != len(m.text) || o.file.Kept() != len(m.kept) {
		t.Fatalf("%+v: Len = %d, Kept = %d", m, o.doc.Len(), o.file.Kept())
	}
}

// P7.1: every window and byte behind every two edits of a file of four bytes, held against the plain text.
func TestShortRuns(t *testing.T) {
	for size := 1; size <= 3; size++ {
		for _, faults := range [][]int{nil, {1}} {
			for _, first := range []string{"", "X", "XY"} {
				for a := range 5 {
					for b := a; b <= 4; b++ {
						shortRuns(t, size, faults, a, b, first)
					}
				}
			}
		}
	}
}

func shortRuns(t *testing.T, size int, faults []int, a, b int, first string) {
	n := 4 - (b - a) + len(first)
	for _, second := range []string{"", "Z"} {
		for c := range n + 1 {
			for d := c; d <= n; d++ {
				o := open(t, "abcd", size, 1)
				m := plainOf("abcd", size, 1)
				o.page.Fault(faults)
				m.faults = faults
				stepEdit(t, o, m, a, b, first)
				stepEdit(t, o, m, c, d, second)
				everyWindow(t, o, m)
			}
		}
	}
}

func everyWindow(t *testing.T, o parts, m *plain) {
	t.Helper()
	for from := range len(m.text) + 1 {
		for to := from; to <= len(m.text); to++ {
			stepBytes(t, o, m, from, to)
		}
		stepAt(t, o, m, from)
	}
}

// P7.1: long runs of calls, held against the plain text.
func TestLongRuns(t *testing.T) {
	r := rand.New(rand.NewSource(7))
	for range 300 {
		base := strings.Repeat("abcdefghijklmnopqrstuvwxyz", 2)[:r.Intn(50)]
		size, most := 1+r.Intn(12), r.Intn(6)
		o := open(t, base, size, most)
		m := plainOf(base, size, most)
		for range 120 {
			step(t, r, o, m)
		}
	}
}

func step(t *testing.T, r *rand.Rand, o parts, m *plain) {
	t.Helper()
	n := len(m.text)
	from := r.Intn(n + 1)
	switch r.Intn(24) {
	case 0:
		m.kept = nil
		o.file.Evict()
	case 1:
		m.faults = nil
		for range r.Intn(3) {
			m.faults = append(m.faults, r.Intn(8)-1)
		}
		o.page.Fault(m.faults)
	case 2:
		m.reads = nil
		o.page.Clear()
	case 3, 4, 5, 6:
		stepEdit(t, o, m, from, from+r.Intn(min(n-from, 6)+1), "ABCDEFGH"[:r.Intn(7)])
	case 7:
		stepBytes(t, o, m, r.Intn(n+5)-2, r.Intn(n+5)-2)
	case 8, 9, 10, 11, 12, 13:
		stepBytes(t, o, m, from, from+r.Intn(n-from+1))
	default:
		stepAt(t, o, m, r.Intn(n+2)-1)
	}
	check(t, o, m)
}

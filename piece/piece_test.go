package piece

import (
	"bytes"
	"math"
	"math/rand"
	"slices"
	"strings"
	"testing"

	"eyot/api"
)

func file(from, to int) api.Piece { return api.Piece{From: from, To: to} }

func added(from, to int) api.Piece { return api.Piece{Added: true, From: from, To: to} }

// edit is an edit that has to be fine.
func edit(t *testing.T, x *Text, a, b int, s string) {
	t.Helper()
	if e := x.Edit(a, b, []byte(s)); e != api.OK {
		t.Fatalf("Edit(%d, %d, %q) = %d", a, b, s, e)
	}
}

func wantPieces(t *testing.T, x *Text, want ...api.Piece) {
	t.Helper()
	if l := x.Pieces(); !slices.Equal(l, want) {
		t.Errorf("Pieces = %v; want %v", l, want)
	}
	n := 0
	for _, p := range want {
		n += p.To - p.From
	}
	if x.Len() != n {
		t.Errorf("Len = %d; want %d", x.Len(), n)
	}
}

func wantAdded(t *testing.T, x *Text, want string) {
	t.Helper()
	if b := x.Added(); string(b) != want {
		t.Errorf("Added = %q; want %q", b, want)
	}
}

func wantNoEdit(t *testing.T, x *Text, a, b int, s []byte, want api.Errno) {
	t.Helper()
	if e := x.Edit(a, b, s); e != want {
		t.Errorf("Edit(%d, %d, %d bytes) = %d; want %d", a, b, len(s), e, want)
	}
}

func wantFind(t *testing.T, x *Text, at, piece, off int) {
	t.Helper()
	if p, o, e := x.Find(at); p != piece || o != off || e != api.OK {
		t.Errorf("Find(%d) = %d, %d, %d; want %d, %d", at, p, o, e, piece, off)
	}
}

func wantNotFound(t *testing.T, x *Text, at int) {
	t.Helper()
	if p, o, e := x.Find(at); p != 0 || o != 0 || e != api.ErrArg {
		t.Errorf("Find(%d) = %d, %d, %d; want 0, 0, ErrArg", at, p, o, e)
	}
}

// sixPieces is a text of file 0 to 2, added 0 to 2, file 2 to 4, added 2 to 4, file 4 to 6, added 4 to 6, each of two bytes.
func sixPieces(t *testing.T) *Text {
	t.Helper()
	x := New(6)
	edit(t, x, 2, 2, "ab")
	edit(t, x, 6, 6, "cd")
	edit(t, x, 10, 10, "ef")
	wantPieces(t, x, file(0, 2), added(0, 2), file(2, 4), added(2, 4), file(4, 6), added(4, 6))
	return x
}

// P6.1: New: one piece, the whole file; none, if n is 0 or below.
func TestNew(t *testing.T) {
	for _, n := range []int{0, -1, -2, -4000, math.MinInt32, math.MinInt} {
		x := New(n)
		wantPieces(t, x)
		wantAdded(t, x, "")
		wantNotFound(t, x, 0)
	}
	for _, n := range []int{1, 2, 3, 300, 301, api.MaxBase, math.MaxInt32, math.MaxInt} {
		x := New(n)
		wantPieces(t, x, file(0, n))
		wantAdded(t, x, "")
	}
}

// P6.1: the chapter's example.
func TestExample(t *testing.T) {
	x := New(4)
	edit(t, x, 2, 2, "x")
	wantPieces(t, x, file(0, 2), added(0, 1), file(2, 4))
}

// P6.1: one edit of a text of one piece: at the front, within, at the end, over all of it; putting in, taking out, both.
func TestOneEdit(t *testing.T) {
	for _, c := range []struct {
		a, b int
		s    string
		want []api.Piece
	}{
		{0, 0, "xy", []api.Piece{added(0, 2), file(0, 9)}},
		{4, 4, "xy", []api.Piece{file(0, 4), added(0, 2), file(4, 9)}},
		{9, 9, "xy", []api.Piece{file(0, 9), added(0, 2)}},
		{0, 1, "xy", []api.Piece{added(0, 2), file(1, 9)}},
		{4, 7, "xy", []api.Piece{file(0, 4), added(0, 2), file(7, 9)}},
		{8, 9, "xy", []api.Piece{file(0, 8), added(0, 2)}},
		{0, 9, "xy", []api.Piece{added(0, 2)}},
		{0, 1, "", []api.Piece{file(1, 9)}},
		{1, 2, "", []api.Piece{file(0, 1), file(2, 9)}},
		{4, 7, "", []api.Piece{file(0, 4), file(7, 9)}},
		{8, 9, "", []api.Piece{file(0, 8)}},
		{1, 9, "", []api.Piece{file(0, 1)}},
		{0, 9, "", nil},
	} {
		x := New(9)
		edit(t, x, c.a, c.b, c.s)
		wantPieces(t, x, c.want...)
		wantAdded(t, x, c.s)
	}
}

// P6.1: an edit over several pieces: what is left of those at its edges stays.
func TestOverSeveralPieces(t *testing.T) {
	for _, c := range []struct {
		a, b int
		s    string
		want []api.Piece
	}{
		{1, 3, "xyz", []api.Piece{file(0, 1), added(6, 9), added(1, 2), file(2, 4), added(2, 4), file(4, 6), added(4, 6)}},
		{2, 4, "xyz", []api.Piece{file(0, 2), added(6, 9), file(2, 4), added(2, 4), file(4, 6), added(4, 6)}},
		{3, 8, "xyz", []api.Piece{file(0, 2), added(0, 1), added(6, 9), file(4, 6), added(4, 6)}},
		{1, 11, "xyz", []api.Piece{file(0, 1), added(6, 9), added(5, 6)}},
		{2, 10, "xyz", []api.Piece{file(0, 2), added(6, 9), added(4, 6)}},
		{0, 7, "xyz", []api.Piece{added(6, 9), added(3, 4), file(4, 6), added(4, 6)}},
		{5, 12, "xyz", []api.Piece{file(0, 2), added(0, 2), file(2, 3), added(6, 9)}},
		{0, 12, "xyz", []api.Piece{added(6, 9)}},
		{1, 3, "", []api.Piece{file(0, 1), added(1, 2), file(2, 4), added(2, 4), file(4, 6), added(4, 6)}},
		{1, 11, "", []api.Piece{file(0, 1), added(5, 6)}},
		{0, 12, "", nil},
	} {
		x := sixPieces(t)
		edit(t, x, c.a, c.b, c.s)
		wantPieces(t, x, c.want...)
		wantAdded(t, x, "abcdef"+c.s)
	}
}

// P6.1: an edit that does nothing, wherever it is, leaves every piece as it was, and adds nothing.
func TestNothingIsEdited(t *testing.T) {
	for _, s := range [][]byte{nil, {}, make([]byte, 0, 8)} {
		x := sixPieces(t)
		for at := range x.Len() + 1 {
			wantNoEdit(t, x, at, at, s, api.OK)
			wantPieces(t, x, file(0, 2), added(0, 2), file(2, 4), added(2, 4), file(4, 6), added(4, 6))
		}
		wantAdded(t, x, "abcdef")
		none := New(0)
		wantNoEdit(t, none, 0, 0, s, api.OK)
		wantPieces(t, none)
	}
}

// P6.1: what is typed on is one piece with what it is typed behind; what is typed ahead of it is not.
func TestTypingOn(t *testing.T) {
	x := New(4)
	for i := range 30 {
		edit(t, x, 2+i, 2+i, string(rune('a'+i%26)))
		wantPieces(t, x, file(0, 2), added(0, i+1), file(2, 4))
	}
	edit(t, x, 2, 2, "!")
	wantPieces(t, x, file(0, 2), added(30, 31), added(0, 30), file(2, 4))
	edit(t, x, 3, 3, "?")
	wantPieces(t, x, file(0, 2), added(30, 32), added(0, 30), file(2, 4))
	end := New(0)
	edit(t, end, 0, 0, "ab")
	edit(t, end, 2, 2, "cd")
	wantPieces(t, end, added(0, 4))
}

// P6.1: typing on over what follows: it is one piece still.
func TestTypingOver(t *testing.T) {
	x := New(4)
	edit(t, x, 0, 1, "a")
	edit(t, x, 1, 2, "b")
	edit(t, x, 2, 4, "c")
	wantPieces(t, x, added(0, 3))
	edit(t, x, 2, 3, "d")
	wantPieces(t, x, added(0, 2), added(3, 4))
	wantAdded(t, x, "abcd")
}

// P6.1: what was just put in is taken out: the file's pieces touch again, and are one; what was added stays added.
func TestTakenOutAgain(t *testing.T) {
	for at := range 5 {
		x := New(4)
		for i := range 3 {
			edit(t, x, at, at, "xy")
			edit(t, x, at, at+2, "")
			wantPieces(t, x, file(0, 4))
			wantAdded(t, x, strings.Repeat("xy", i+1))
		}
	}
	x := New(4)
	edit(t, x, 2, 2, "abc")
	edit(t, x, 4, 5, "")
	wantPieces(t, x, file(0, 2), added(0, 2), file(2, 4))
	edit(t, x, 4, 4, "c")
	wantPieces(t, x, file(0, 2), added(0, 2), added(3, 4), file(2, 4))
	wantAdded(t, x, "abcc")
}

// P6.1: pieces of what was added that touch there are one as soon as they stand side by side.
func TestAddedTouch(t *testing.T) {
	x := New(4)
	edit(t, x, 1, 1, "ab")
	edit(t, x, 4, 4, "cd")
	wantPieces(t, x, file(0, 1), added(0, 2), file(1, 2), added(2, 4), file(2, 4))
	edit(t, x, 3, 4, "")
	wantPieces(t, x, file(0, 1), added(0, 4), file(2, 4))
}

// P6.1: both edges of what is left touch, with what is put in standing between: it keeps them apart.
func TestTouchButApart(t *testing.T) {
	x := New(4)
	edit(t, x, 2, 2, "ab")
	edit(t, x, 3, 3, "-")
	wantPieces(t, x, file(0, 2), added(0, 1), added(2, 3), added(1, 2), file(2, 4))
	edit(t, x, 3, 4, "")
	wantPieces(t, x, file(0, 2), added(0, 2), file(2, 4))
	edit(t, x, 2, 4, "+")
	wantPieces(t, x, file(0, 2), added(3, 4), file(2, 4))
}

// P6.1: pieces that stand side by side, and do not touch, are two: a gap between them, the wrong order, or the same numbers in the file and in what was added.
func TestSideBySideButTwo(t *testing.T) {
	gap := New(5)
	edit(t, gap, 2, 3, "")
	wantPieces(t, gap, file(0, 2), file(3, 5))
	back := New(0)
	edit(t, back, 0, 0, "ab")
	edit(t, back, 0, 0, "cd")
	wantPieces(t, back, added(2, 4), added(0, 2))
	back = New(0)
	edit(t, back, 0, 0, "ab")
	edit(t, back, 0, 1, "cd")
	wantPieces(t, back, added(2, 4), added(1, 2))
	other := New(2)
	edit(t, other, 0, 0, "ab")
	edit(t, other, 4, 4, "cd")
	edit(t, other, 0, 2, "")
	wantPieces(t, other, file(0, 2), added(2, 4))
	other = New(4)
	edit(t, other, 2, 2, "ab")
	edit(t, other, 0, 2, "")
	wantPieces(t, other, added(0, 2), file(2, 4))
}

// P6.1: a, b that are out of order or out of the text: ErrArg, and nothing has changed.
func TestPlacesThatAreNone(t *testing.T) {
	for _, s := range [][]byte{nil, []byte("x"), make([]byte, api.MaxInsert)} {
		x := sixPieces(t)
		for _, w := range [][2]int{
			{-1, -1}, {-1, 0}, {-1, 5}, {-1, 12}, {-1, 13}, {-2, -1}, {0, -1}, {1, 0}, {5, 4}, {12, 11}, {12, 0}, {3, -1},
			{0, 13}, {5, 13}, {12, 13}, {13, 13}, {13, 12}, {13, 14}, {14, 13}, {0, 4000}, {12, 1 << 32}, {1 << 32, 1 << 32},
			{0, math.MaxInt}, {math.MaxInt, math.MaxInt}, {math.MaxInt, 0}, {math.MaxInt, math.MinInt},
			{math.MinInt, math.MinInt}, {math.MinInt, 0}, {math.MinInt, 5}, {math.MinInt, math.MaxInt}, {5, math.MinInt}, {0, math.MinInt},
		} {
			wantNoEdit(t, x, w[0], w[1], s, api.ErrArg)
		}
		wantPieces(t, x, file(0, 2), added(0, 2), file(2, 4), added(2, 4), file(4, 6), added(4, 6))
		wantAdded(t, x, "abcdef")
	}
	none := New(0)
	for _, w := range [][2]int{{0, 1}, {1, 1}, {-1, 0}, {-1, -1}, {1, 0}} {
		wantNoEdit(t, none, w[0], w[1], []byte("x"), api.ErrArg)
	}
	wantPieces(t, none)
	wantAdded(t, none, "")
}

// P6.1: s of as many bytes as may be is fine, one more is ErrTooBig, also where more goes than comes; nothing has changed then.
func TestTooBig(t *testing.T) {
	x := New(1000)
	edit(t, x, 10, 20, strings.Repeat("m", api.MaxInsert))
	wantPieces(t, x, file(0, 10), added(0, api.MaxInsert), file(20, 1000))
	for _, n := range []int{api.MaxInsert + 1, api.MaxInsert + 2, 2 * api.MaxInsert, 100000} {
		for _, w := range [][2]int{{0, 0}, {310, 310}, {5, 1000}, {0, 1290}, {1290, 1290}} {
			wantNoEdit(t, x, w[0], w[1], make([]byte, n), api.ErrTooBig)
		}
	}
	wantPieces(t, x, file(0, 10), added(0, api.MaxInsert), file(20, 1000))
	wantAdded(t, x, strings.Repeat("m", api.MaxInsert))
	edit(t, x, 310, 310, strings.Repeat("n", api.MaxInsert))
	wantPieces(t, x, file(0, 10), added(0, 2*api.MaxInsert), file(20, 1000))
}

// P6.1, R2: of both errors the first, ErrArg, is told.
func TestWhichError(t *testing.T) {
	x := New(4)
	great := make([]byte, api.MaxInsert+1)
	for _, w := range [][2]int{{-1, 0}, {3, 2}, {0, 5}, {5, 5}, {math.MinInt, math.MaxInt}} {
		wantNoEdit(t, x, w[0], w[1], great, api.ErrArg)
	}
	wantNoEdit(t, x, 0, 4, great, api.ErrTooBig)
	wantPieces(t, x, file(0, 4))
}

// P6.1: an edit behind one that failed adds where the last one that was fine ended.
func TestFailedEditsAddNothing(t *testing.T) {
	x := New(2)
	edit(t, x, 1, 1, "a")
	wantNoEdit(t, x, 9, 9, []byte("b"), api.ErrArg)
	wantNoEdit(t, x, 2, 2, make([]byte, api.MaxInsert+1), api.ErrTooBig)
	edit(t, x, 2, 2, "c")
	wantPieces(t, x, file(0, 1), added(0, 2), file(1, 2))
	wantAdded(t, x, "ac")
}

// P6.1: Added: all that was ever added, in the order of the edits, wherever it stands, and also where it was taken out again.
func TestAdded(t *testing.T) {
	x := New(3)
	wantAdded(t, x, "")
	edit(t, x, 3, 3, "one ")
	edit(t, x, 0, 0, "two ")
	edit(t, x, 0, x.Len(), "three ")
	edit(t, x, 0, x.Len(), "")
	wantAdded(t, x, "one two three ")
	wantPieces(t, x)
	edit(t, x, 0, 0, "\x00\xff")
	wantAdded(t, x, "one two three \x00\xff")
	wantPieces(t, x, added(14, 16))
}

// P6.2: Find of every byte, at both edges of each piece and within; ErrArg beyond.
func TestFind(t *testing.T) {
	x := New(7)
	edit(t, x, 3, 4, "abcd")
	edit(t, x, 0, 0, "-")
	wantPieces(t, x, added(4, 5), file(0, 3), added(0, 4), file(4, 7))
	for at, want := range [][2]int{{0, 0}, {1, 0}, {1, 1}, {1, 2}, {2, 0}, {2, 1}, {2, 2}, {2, 3}, {3, 0}, {3, 1}, {3, 2}} {
		wantFind(t, x, at, want[0], want[1])
	}
	for _, at := range []int{-1, -2, -11, 11, 12, 4000, 1 << 32, -1 << 32, math.MaxInt, math.MinInt} {
		wantNotFound(t, x, at)
	}
}

// P6.2: Find in a text of one piece, whose file is as great as may be, and of none.
func TestFindOnePiece(t *testing.T) {
	for _, n := range []int{1, 2, api.MaxBase, math.MaxInt32} {
		x := New(n)
		wantFind(t, x, 0, 0, 0)
		wantFind(t, x, n/2, 0, n/2)
		wantFind(t, x, n-1, 0, n-1)
		wantNotFound(t, x, n)
		wantNotFound(t, x, -1)
		edit(t, x, 0, n, "")
		wantNotFound(t, x, 0)
		wantNotFound(t, x, n-1)
	}
}

// P6.2: Find is of the text as it is now.
func TestFindAfterEdits(t *testing.T) {
	x := New(4)
	wantFind(t, x, 3, 0, 3)
	edit(t, x, 1, 2, "")
	wantFind(t, x, 1, 1, 0)
	wantNotFound(t, x, 3)
	edit(t, x, 1, 1, "xy")
	wantFind(t, x, 2, 1, 1)
	wantFind(t, x, 4, 2, 1)
	edit(t, x, 1, 3, "")
	wantFind(t, x, 1, 1, 0)
	wantNotFound(t, x, 3)
}

// P6.2: a copy is as what it was made of; edits of either side are not seen by the other, nor by a copy of the copy.
func TestCopy(t *testing.T) {
	x := sixPieces(t)
	y := x.Copy()
	z := y.Copy()
	six := []api.Piece{file(0, 2), added(0, 2), file(2, 4), added(2, 4), file(4, 6), added(4, 6)}
	wantPieces(t, y, six...)
	wantAdded(t, y, "abcdef")
	edit(t, x, 12, 12, "x")
	edit(t, x, 0, 1, "")
	wantPieces(t, y, six...)
	wantAdded(t, y, "abcdef")
	edit(t, y, 12, 12, "yy")
	edit(t, y, 4, 6, "")
	wantPieces(t, x, file(1, 2), added(0, 2), file(2, 4), added(2, 4), file(4, 6), added(4, 7))
	wantAdded(t, x, "abcdefx")
	wantPieces(t, y, file(0, 2), added(0, 4), file(4, 6), added(4, 8))
	wantAdded(t, y, "abcdefyy")
	wantPieces(t, z, six...)
	wantAdded(t, z, "abcdef")
	wantFind(t, z, 11, 5, 1)
}

// P6.2: copies go on from where they were made, though what was added has room to spare there.
func TestCopiesTypeOn(t *testing.T) {
	for n := range 70 {
		x := New(0)
		for i := range n {
			edit(t, x, i, i, "a")
		}
		y, z := x.Copy(), x.Copy()
		edit(t, x, n, n, "x")
		edit(t, y, n, n, "y")
		edit(t, z, n, n, "z")
		for want, c := range map[string]*Text{"x": x, "y": y, "z": z} {
			wantAdded(t, c, strings.Repeat("a", n)+want)
			wantPieces(t, c, added(0, n+1))
		}
	}
}

// P6.2: a copy of an empty text is one, and no nil.
func TestCopyOfEmpty(t *testing.T) {
	y := New(0).Copy()
	if y == nil {
		t.Fatal("Copy: nil")
	}
	wantPieces(t, y)
	edit(t, y, 0, 0, "ab")
	wantPieces(t, y, added(0, 2))
}

// P6.2: of a nil Text: ErrArg, nothing, 0; ErrArg also of an s that is too long.
func TestNilText(t *testing.T) {
	var none *Text
	for range 2 {
		wantPieces(t, none)
		wantAdded(t, none, "")
		for _, at := range []int{0, 1, -1, math.MaxInt, math.MinInt} {
			wantNotFound(t, none, at)
			wantNoEdit(t, none, at, at, nil, api.ErrArg)
			wantNoEdit(t, none, 0, at, []byte("x"), api.ErrArg)
			wantNoEdit(t, none, at, 0, make([]byte, api.MaxInsert+1), api.ErrArg)
		}
		if none.Copy() != nil {
			t.Error("Copy is not nil")
		}
	}
}

// R1: a Text that New did not make is the one of an empty file.
func TestZeroText(t *testing.T) {
	var x Text
	wantPieces(t, &x)
	wantAdded(t, &x, "")
	wantNotFound(t, &x, 0)
	wantPieces(t, x.Copy())
	wantNoEdit(t, &x, 0, 1, nil, api.ErrArg)
	edit(t, &x, 0, 0, "ab")
	wantPieces(t, &x, added(0, 2))
}

// R1: no call panics on a text beyond the bound, whose length is no number any more.
func TestBeyondTheBound(t *testing.T) {
	x := New(math.MaxInt)
	edit(t, x, 0, 0, "x")
	for range 3 {
		x.Len()
		x.Pieces()
		for _, at := range []int{0, 1, -1, math.MaxInt, math.MinInt} {
			x.Find(at)
			x.Edit(at, at, []byte("y"))
			x.Edit(0, at, nil)
			x.Edit(at, 0, nil)
		}
		x = x.Copy()
	}
}

// R3: s is neither changed nor kept, nor is its spare room.
func TestHandedIn(t *testing.T) {
	room := []byte("abcdefgh")
	x := New(2)
	if e := x.Edit(1, 1, room[2:4]); e != api.OK {
		t.Fatalf("Edit = %d", e)
	}
	edit(t, x, 3, 3, "xyz")
	if string(room) != "abcdefgh" {
		t.Errorf("what was handed in is %q now", room)
	}
	spoilBytes(room)
	wantAdded(t, x, "cdxyz")
	wantPieces(t, x, file(0, 1), added(0, 5), file(1, 2))
}

// R3: what is told is new memory, its spare room too: spoiling it spoils neither the text nor another answer, nor what is added later on.
func TestNewMemory(t *testing.T) {
	x := sixPieces(t)
	other, otherAdded := x.Pieces(), x.Added()
	for range 2 {
		spoilPieces(x.Pieces())
		spoilBytes(x.Added())
		wantPieces(t, x, other...)
		wantAdded(t, x, "abcdef")
	}
	copied := x.Copy()
	spoilPieces(copied.Pieces())
	spoilBytes(copied.Added())
	spoilPieces(other)
	spoilBytes(otherAdded)
	six := []api.Piece{file(0, 2), added(0, 2), file(2, 4), added(2, 4), file(4, 6), added(4, 6)}
	wantPieces(t, x, six...)
	wantPieces(t, copied, six...)
	last := x.Added()
	edit(t, x, 12, 12, "g")
	spoilBytes(last)
	wantAdded(t, x, "abcdefg")
}

// R3: the lists of an emptied text share no room with it either.
func TestNewMemoryOfNothing(t *testing.T) {
	x := New(8)
	edit(t, x, 0, 8, "")
	l, b := x.Pieces(), x.Added()
	edit(t, x, 0, 0, "ab")
	spoilPieces(l)
	spoilBytes(b)
	wantPieces(t, x, added(0, 2))
	wantAdded(t, x, "ab")
}

// R3: what was told stays as it is, whatever is edited later on.
func TestToldStays(t *testing.T) {
	x := sixPieces(t)
	l, b := x.Pieces(), x.Added()
	edit(t, x, 12, 12, "gh")
	edit(t, x, 1, 5, "-")
	edit(t, x, 0, 1, "")
	want := []api.Piece{file(0, 2), added(0, 2), file(2, 4), added(2, 4), file(4, 6), added(4, 6)}
	if !slices.Equal(l, want) || string(b) != "abcdef" {
		t.Errorf("told ahead of the edits, and now: %v, %q", l, b)
	}
}

func spoilPieces(l []api.Piece) {
	l = l[:cap(l)]
	for i := range l {
		l[i] = api.Piece{Added: true, From: 77, To: 99}
	}
}

func spoilBytes(b []byte) {
	b = b[:cap(b)]
	for i := range b {
		b[i] = '!'
	}
}

// source is where a byte of a text comes from.
type source struct {
	added bool
	at    int
}

// plain is a text as the promise has it: where each of its bytes comes from, with all that was added.
type plain struct {
	text  []source
	added []byte
}

func plainOf(n int) *plain {
	m := &plain{}
	for i := range n {
		m.text = append(m.text, source{at: i})
	}
	return m
}

func (m *plain) edit(a, b int, s []byte) api.Errno {
	if a < 0 || a > b || b > len(m.text) {
		return api.ErrArg
	}
	if len(s) > api.MaxInsert {
		return api.ErrTooBig
	}
	var in []source
	for i := range s {
		in = append(in, source{added: true, at: len(m.added) + i})
	}
	m.added = append(m.added, s...)
	m.text = slices.Concat(m.text[:a], in, m.text[b:])
	return api.OK
}

// goesOn: byte i comes from right behind where the one ahead of it does.
func (m *plain) goesOn(i int) bool {
	return i > 0 && m.text[i] == source{added: m.text[i-1].added, at: m.text[i-1].at + 1}
}

// pieces tells the longest pieces that there are, with each byte's piece and how far in it is.
func (m *plain) pieces() (l []api.Piece, places [][2]int) {
	for i, s := range m.text {
		if !m.goesOn(i) {
			l = append(l, api.Piece{Added: s.added, From: s.at, To: s.at})
		}
		last := len(l) - 1
		places = append(places, [2]int{last, s.at - l[last].From})
		l[last].To++
	}
	return l, places
}

func (m *plain) copy() *plain {
	return &plain{text: slices.Clone(m.text), added: slices.Clone(m.added)}
}

// check holds all that both tell against each other.
func check(t *testing.T, x *Text, m *plain) {
	t.Helper()
	want, places := m.pieces()
	if l := x.Pieces(); !slices.Equal(l, want) {
		t.Fatalf("Pieces = %v; want %v", l, want)
	}
	if b := x.Added(); !bytes.Equal(b, m.added) || x.Len() != len(m.text) {
		t.Fatalf("Added = %q, Len = %d; want %q, %d", b, x.Len(), m.added, len(m.text))
	}
	for at, place := range places {
		wantFind(t, x, at, place[0], place[1])
	}
	wantNotFound(t, x, -1)
	wantNotFound(t, x, len(places))
}

func stepEdit(t *testing.T, x *Text, m *plain, a, b int, s []byte) {
	t.Helper()
	want := m.edit(a, b, s)
	if e := x.Edit(a, b, s); e != want {
		t.Fatalf("Edit(%d, %d, %q) = %d; want %d", a, b, s, e, want)
	}
}

// P6.1, P6.2: every run of three edits of short texts that put in up to two bytes each, with wrong ones among them, held against the plain text.
func TestShortRuns(t *testing.T) {
	var run func(x *Text, m *plain, left int)
	run = func(x *Text, m *plain, left int) {
		check(t, x, m)
		if left == 0 || t.Failed() {
			return
		}
		n := len(m.text)
		for a := -1; a <= n+1; a++ {
			for b := max(a-1, -1); b <= n+1; b++ {
				for _, s := range []string{"", "x", "yz"} {
					y, p := x.Copy(), m.copy()
					stepEdit(t, y, p, a, b, []byte(s))
					run(y, p, left-1)
				}
			}
		}
	}
	for n := range 4 {
		run(New(n), plainOf(n), 3)
	}
}

// P6.1, P6.2: long runs of edits, with copies that go on apart, held against the plain text.
func TestLongRuns(t *testing.T) {
	r := rand.New(rand.NewSource(6))
	for range 300 {
		n := r.Intn(40)
		texts, plains := []*Text{New(n)}, []*plain{plainOf(n)}
		for range 120 {
			i := r.Intn(len(texts))
			step(t, r, texts[i], plains[i])
			check(t, texts[i], plains[i])
			if len(texts) < 3 && r.Intn(40) == 0 {
				texts, plains = append(texts, texts[i].Copy()), append(plains, plains[i].copy())
			}
		}
		for i, x := range texts {
			check(t, x, plains[i])
		}
	}
}

func step(t *testing.T, r *rand.Rand, x *Text, m *plain) {
	t.Helper()
	n := len(m.text)
	s := []byte("abcdefghij")[:r.Intn(5)]
	switch a := r.Intn(n + 1); r.Intn(12) {
	case 0:
		stepEdit(t, x, m, r.Intn(n+5)-2, r.Intn(n+5)-2, s)
	case 1:
		stepEdit(t, x, m, a, a, make([]byte, api.MaxInsert+r.Intn(2)))
		stepEdit(t, x, m, a, len(m.text)-r.Intn(n-a+1), nil)
	case 2, 3, 4:
		stepEdit(t, x, m, a, a, s)
		stepEdit(t, x, m, a+len(s), a+len(s), []byte("!"))
	case 5, 6:
		stepEdit(t, x, m, a, a, s)
		stepEdit(t, x, m, a, a+len(s), nil)
	default:
		stepEdit(t, x, m, a, a+r.Intn(min(n-a, 12)+1), s)
	}
}

// What follows: the pieces spell the text that is spliced.
func TestSpells(t *testing.T) {
	r := rand.New(rand.NewSource(66))
	base := []byte("The quick brown fox jumps over the lazy dog.")
	for range 200 {
		x, text := New(len(base)), slices.Clone(base)
		for range 60 {
			a := r.Intn(len(text) + 1)
			b := a + r.Intn(min(len(text)-a, 8)+1)
			s := []byte("0123456789")[r.Intn(5):][:r.Intn(6)]
			edit(t, x, a, b, string(s))
			text = slices.Concat(text[:a], s, text[b:])
			if got := spelt(x, base); !bytes.Equal(got, text) {
				t.Fatalf("%q; want %q", got, text)
			}
		}
	}
}

// spelt tells the bytes of a text over a file.
func spelt(x *Text, base []byte) []byte {
	var b []byte
	for _, p := range x.Pieces() {
		of := base
		if p.Added {
			of = x.Added()
		}
		b = append(b, of[p.From:p.To]...)
	}
	return b
}

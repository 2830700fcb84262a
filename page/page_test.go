package page

import (
	"bytes"
	"math"
	"math/rand"
	"slices"
	"testing"

	"eyot/api"
)

// letters is a file of n bytes in which neighbours, and pages, can be told apart.
func letters(n int) []byte {
	b := make([]byte, n)
	for i := range b {
		b[i] = byte(i*7 + i/256 + 1)
	}
	return b
}

func open(t *testing.T, base []byte, size int) *Pages {
	t.Helper()
	p, e := New(base, size)
	if p == nil || e != api.OK {
		t.Fatalf("New(%d bytes, %d): %v %d", len(base), size, p, e)
	}
	return p
}

func wantRead(t *testing.T, p *Pages, i int, want string) {
	t.Helper()
	if b, e := p.Read(i); string(b) != want || e != api.OK {
		t.Errorf("Read(%d) = %q, %d; want %q", i, b, e, want)
	}
}

func wantNo(t *testing.T, p *Pages, i int, want api.Errno) {
	t.Helper()
	if b, e := p.Read(i); len(b) != 0 || e != want {
		t.Errorf("Read(%d) = %q, %d; want nothing, %d", i, b, e, want)
	}
}

func wantReads(t *testing.T, p *Pages, want ...int) {
	t.Helper()
	if l := p.Reads(); !slices.Equal(l, want) {
		t.Errorf("Reads = %v; want %v", l, want)
	}
}

// P3.1: Len, Count and Read of files of every kind of length.
func TestPagesOfFiles(t *testing.T) {
	for _, c := range []struct {
		base string
		size int
		want []string
	}{
		{"", 1, nil}, {"", 512, nil},
		{"a", 1, []string{"a"}}, {"a", 2, []string{"a"}}, {"a", 512, []string{"a"}},
		{"abc", 4, []string{"abc"}}, {"abc", 3, []string{"abc"}}, {"abc", 1, []string{"a", "b", "c"}},
		{"abcd", 2, []string{"ab", "cd"}}, {"abcdef", 2, []string{"ab", "cd", "ef"}}, {"abcdef", 3, []string{"abc", "def"}},
		{"abcde", 2, []string{"ab", "cd", "e"}}, {"abcde", 3, []string{"abc", "de"}}, {"abcde", 4, []string{"abcd", "e"}},
		{"\x00\xff\x00", 2, []string{"\x00\xff", "\x00"}},
	} {
		p := open(t, []byte(c.base), c.size)
		if p.Len() != len(c.base) || p.Count() != len(c.want) {
			t.Errorf("%q by %d: %d bytes, %d pages", c.base, c.size, p.Len(), p.Count())
		}
		for i, want := range c.want {
			wantRead(t, p, i, want)
		}
		wantNo(t, p, len(c.want), api.ErrArg)
	}
}

// P3.1, what follows: pages, one behind the other, are the file; all but the last one are of the size, and none is empty.
func TestPagesAreTheFile(t *testing.T) {
	lens := []int{0, 1, 2, 3, 7, 8, 9, 511, 512, 513, 1023, 1024, 1025, 3999, 4000}
	for size := 1; size <= api.MaxPage; size++ {
		for _, n := range lens {
			base := letters(n)
			p := open(t, base, size)
			if count := (n + size - 1) / size; p.Len() != n || p.Count() != count {
				t.Fatalf("%d by %d: %d bytes, %d pages; want %d pages", n, size, p.Len(), p.Count(), count)
			}
			var all []byte
			for i := range p.Count() {
				b, e := p.Read(i)
				full := len(b) == size
				last := i == p.Count()-1 && len(b) > 0 && len(b) < size
				if e != api.OK || !full && !last {
					t.Fatalf("%d by %d: page %d: %d bytes, %d", n, size, i, len(b), e)
				}
				all = append(all, b...)
			}
			if !bytes.Equal(all, base) {
				t.Fatalf("%d by %d: %q", n, size, all)
			}
		}
	}
}

// Size is what New was given, whatever the file holds, and telling it reads nothing; of no Pages it is 0.
func TestSize(t *testing.T) {
	for _, size := range []int{1, 2, 5, 6, 9, 10, 11, api.MaxPage} {
		for _, n := range []int{0, 1, 10, api.MaxBase} {
			p := open(t, letters(n), size)
			p.Fault([]int{0, 1})
			if p.Size() != size {
				t.Errorf("%d by %d: Size = %d", n, size, p.Size())
			}
			wantReads(t, p)
		}
	}
	for _, p := range []*Pages{nil, {}} {
		if p.Size() != 0 {
			t.Errorf("none: Size = %d", p.Size())
		}
	}
}

// P3.1: sizes and files at their bounds, and beyond.
func TestNewBounds(t *testing.T) {
	for _, c := range []struct {
		n, size int
		want    api.Errno
	}{
		{0, 1, api.OK}, {0, api.MaxPage, api.OK}, {api.MaxBase, 1, api.OK}, {api.MaxBase, api.MaxPage, api.OK}, {api.MaxBase - 1, 2, api.OK},
		{5, 0, api.ErrArg}, {5, -1, api.ErrArg}, {5, api.MaxPage + 1, api.ErrArg}, {5, math.MaxInt, api.ErrArg}, {5, math.MinInt, api.ErrArg},
		{0, 0, api.ErrArg}, {0, -1, api.ErrArg}, {0, api.MaxPage + 1, api.ErrArg},
		{api.MaxBase + 1, 1, api.ErrArg}, {api.MaxBase + 1, api.MaxPage, api.ErrArg}, {1 << 20, 5, api.ErrArg},
		{api.MaxBase + 1, 0, api.ErrArg}, {api.MaxBase + 1, api.MaxPage + 1, api.ErrArg},
	} {
		p, e := New(make([]byte, c.n), c.size)
		if e != c.want || (p != nil) != (c.want == api.OK) {
			t.Errorf("New(%d bytes, %d): %v, %d; want %d", c.n, c.size, p != nil, e, c.want)
		}
	}
}

// P3.1: a nil file and an empty one are one.
func TestEmptyFile(t *testing.T) {
	for _, base := range [][]byte{nil, {}, []byte("spare")[:0]} {
		p := open(t, base, 2)
		p.Fault([]int{0, -1, 1})
		wantNo(t, p, 0, api.ErrArg)
		wantNo(t, p, -1, api.ErrArg)
		if p.Len() != 0 || p.Count() != 0 {
			t.Errorf("%d bytes, %d pages", p.Len(), p.Count())
		}
		wantReads(t, p)
	}
}

// P3.1: pages that there are not: ErrArg, also where they are said not to be readable, and never noted.
func TestReadNoSuchPage(t *testing.T) {
	p := open(t, []byte("hello"), 2)
	no := []int{-1, -2, 3, 4, 5, math.MaxInt, math.MinInt, math.MaxInt / 2, 1 << 32, -1 << 32}
	for _, faults := range [][]int{nil, no} {
		p.Fault(faults)
		for _, i := range no {
			wantNo(t, p, i, api.ErrArg)
		}
		wantRead(t, p, 0, "he")
		wantRead(t, p, 2, "o")
	}
	wantReads(t, p, 0, 2, 0, 2)
}

// P3.1: Fault: these pages, and no others, from now on.
func TestFault(t *testing.T) {
	want := []string{"he", "ll", "o"}
	p := open(t, []byte("hello"), 2)
	for _, faults := range [][]int{
		{1}, {0}, {2}, nil, {0, 1, 2}, {}, {2, 0}, {1, 1, 1}, {-1, 3, 7}, {0, -1, 3}, {math.MinInt, 2, math.MaxInt, 2}, {0}, {1}, nil,
	} {
		p.Fault(faults)
		for range 2 {
			for i := range want {
				if slices.Contains(faults, i) {
					wantNo(t, p, i, api.ErrIO)
				} else {
					wantRead(t, p, i, want[i])
				}
			}
		}
		if p.Len() != 5 || p.Count() != 3 {
			t.Errorf("%v: %d bytes, %d pages", faults, p.Len(), p.Count())
		}
	}
}

// P3.1: Fault alone is no reading, and what was read stays noted.
func TestFaultNotesNothing(t *testing.T) {
	p := open(t, []byte("hello"), 2)
	p.Fault([]int{0, 1})
	wantReads(t, p)
	wantRead(t, p, 2, "o")
	p.Fault([]int{2})
	p.Fault(nil)
	wantReads(t, p, 2)
}

// P3.1: Reads: in the order of the reading, each time anew, also where it fails; Clear: none are, and all else stays.
func TestReadsAndClear(t *testing.T) {
	p := open(t, []byte("hello"), 2)
	wantReads(t, p)
	p.Clear()
	wantReads(t, p)
	p.Fault([]int{1})
	for _, i := range []int{2, 0, 1, 1, 3, 0, -1, 2} {
		p.Read(i)
	}
	wantReads(t, p, 2, 0, 1, 1, 0, 2)
	wantReads(t, p, 2, 0, 1, 1, 0, 2)
	p.Clear()
	wantReads(t, p)
	wantNo(t, p, 1, api.ErrIO)
	wantRead(t, p, 0, "he")
	wantReads(t, p, 1, 0)
	if p.Len() != 5 || p.Count() != 3 {
		t.Errorf("%d bytes, %d pages", p.Len(), p.Count())
	}
	p.Clear()
	p.Clear()
	wantReads(t, p)
}

// P3.1: of a nil Pages: ErrArg, nothing, 0. A Pages that New did not make is an empty file.
func TestNoPages(t *testing.T) {
	for _, p := range []*Pages{nil, {}} {
		p.Fault(nil)
		p.Fault([]int{0, 1, -1})
		for _, i := range []int{0, 1, -1, math.MaxInt, math.MinInt} {
			wantNo(t, p, i, api.ErrArg)
		}
		p.Clear()
		wantReads(t, p)
		if p.Len() != 0 || p.Count() != 0 {
			t.Errorf("%d bytes, %d pages", p.Len(), p.Count())
		}
	}
}

// R3: what is handed in is neither changed nor kept, its spare room too.
func TestHandedIn(t *testing.T) {
	room := []byte("hello, world")
	l := []int{1, 7, -1, 2, 0}
	p := open(t, room[:5], 2)
	p.Fault(l[:3])
	p.Read(0)
	p.Read(1)
	if string(room) != "hello, world" || !slices.Equal(l, []int{1, 7, -1, 2, 0}) {
		t.Errorf("changed: %q %v", room, l)
	}
	for i := range room {
		room[i] = '!'
	}
	for i := range l {
		l[i] = 2
	}
	wantRead(t, p, 0, "he")
	wantNo(t, p, 1, api.ErrIO)
	wantRead(t, p, 2, "o")
}

// R3: what is told is new memory, its spare room too.
func TestNewMemory(t *testing.T) {
	p := open(t, []byte("hello"), 2)
	for i, want := range []string{"he", "ll", "o"} {
		b, _ := p.Read(i)
		spoil(b, '!')
		wantRead(t, p, i, want)
	}
	for i, want := range []string{"he", "ll", "o"} {
		wantRead(t, p, i, want)
	}
	p.Clear()
	spoil(p.Reads(), 9)
	p.Read(2)
	first := p.Reads()
	spoil(first, 9)
	wantReads(t, p, 2)
	second := p.Reads()
	p.Read(1)
	p.Clear()
	p.Read(0)
	if !slices.Equal(second, []int{2}) || first[0] != 9 {
		t.Errorf("lists that were told have changed: %v %v", first, second)
	}
	wantReads(t, p, 0)
}

func spoil[T any](l []T, x T) {
	l = l[:cap(l)]
	for i := range l {
		l[i] = x
	}
}

// R4: two files do not know of each other, though they are of the same bytes.
func TestFilesStandAlone(t *testing.T) {
	base := []byte("hello")
	p, q := open(t, base, 2), open(t, base, 2)
	p.Fault([]int{0})
	wantNo(t, p, 0, api.ErrIO)
	wantRead(t, q, 0, "he")
	wantRead(t, q, 1, "ll")
	p.Clear()
	wantReads(t, p)
	wantReads(t, q, 0, 1)
}

// plain is a file as the promise has it, with nothing made ready.
type plain struct {
	base    []byte
	size    int
	faults  []int
	reads   []int
	nothing bool
}

func (m *plain) read(i int) ([]byte, api.Errno) {
	if m.nothing || i < 0 || i*m.size >= len(m.base) {
		return nil, api.ErrArg
	}
	m.reads = append(m.reads, i)
	if slices.Contains(m.faults, i) {
		return nil, api.ErrIO
	}
	rest := m.base[i*m.size:]
	return rest[:min(m.size, len(rest))], api.OK
}

// P3.1: long runs of calls, held against the plain file.
func TestRuns(t *testing.T) {
	r := rand.New(rand.NewSource(3))
	for range 300 {
		m := &plain{base: letters(r.Intn(40)), size: 1 + r.Intn(12)}
		p, _ := New(m.base, m.size)
		if r.Intn(20) == 0 {
			p, m = nil, &plain{nothing: true}
		}
		for range 100 {
			step(t, r, p, m)
		}
	}
}

func step(t *testing.T, r *rand.Rand, p *Pages, m *plain) {
	t.Helper()
	switch r.Intn(12) {
	case 0:
		m.faults = nil
		for range r.Intn(6) {
			m.faults = append(m.faults, r.Intn(44)-2)
		}
		p.Fault(m.faults)
	case 1:
		m.reads = nil
		p.Clear()
	case 2:
		if l := p.Reads(); !slices.Equal(l, m.reads) {
			t.Fatalf("Reads = %v; want %v", l, m.reads)
		}
	default:
		i := r.Intn(44) - 2
		b, e := p.Read(i)
		if want, no := m.read(i); !bytes.Equal(b, want) || e != no {
			t.Fatalf("%+v: Read(%d) = %q, %d; want %q, %d", m, i, b, e, want, no)
		}
	}
	if p.Len() != len(m.base) {
		t.Fatalf("Len = %d; want %d", p.Len(), len(m.base))
	}
}

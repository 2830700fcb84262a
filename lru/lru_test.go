package lru

import (
	"errors"
	"math"
	"math/rand"
	"slices"
	"strconv"
	"testing"
)

// filled is a Cache of strings into which these keys were put, in this order.
func filled(most int, keys ...int) *Cache[string] {
	c := New[string](most)
	for _, k := range keys {
		c.Put(k, strconv.Itoa(k))
	}
	return c
}

func wantKeys[V any](t *testing.T, c *Cache[V], want ...int) {
	t.Helper()
	if l := c.Keys(); !slices.Equal(l, want) {
		t.Errorf("Keys = %v; want %v", l, want)
	}
}

func wantGet[V comparable](t *testing.T, c *Cache[V], k int, want V) {
	t.Helper()
	if v, is := c.Get(k); v != want || !is {
		t.Errorf("Get(%d) = %v, %v; want %v", k, v, is, want)
	}
}

func wantNone[V comparable](t *testing.T, c *Cache[V], k int) {
	t.Helper()
	var none V
	if v, is := c.Get(k); v != none || is {
		t.Errorf("Get(%d) = %v, %v; want no", k, v, is)
	}
}

// wantGone: Put tells that this key went.
func wantGone[V any](t *testing.T, c *Cache[V], k int, v V, want int) {
	t.Helper()
	if gone, is := c.Put(k, v); gone != want || !is {
		t.Errorf("Put(%d) = %d, %v; want %d gone", k, gone, is, want)
	}
}

// wantStay: Put tells that none went.
func wantStay[V any](t *testing.T, c *Cache[V], k int, v V) {
	t.Helper()
	if gone, is := c.Put(k, v); gone != 0 || is {
		t.Errorf("Put(%d) = %d, %v; want none gone", k, gone, is)
	}
}

// P4.1: the chapter's example; most below 1 is as 1, and a zero Cache is as New(1).
func TestRoomForOne(t *testing.T) {
	for _, most := range []int{1, 0, -1, -7, math.MinInt} {
		onlyOne(t, New[string](most))
	}
	onlyOne(t, &Cache[string]{})
	var c Cache[string]
	onlyOne(t, &c)
	onlyOne(t, new(Cache[string]))
}

func onlyOne(t *testing.T, c *Cache[string]) {
	t.Helper()
	wantKeys(t, c)
	wantNone(t, c, 0)
	if c.Drop(0) {
		t.Error("Drop of none")
	}
	for range 2 {
		wantStay(t, c, 1, "a")
		wantStay(t, c, 1, "b")
		wantKeys(t, c, 1)
		wantGone(t, c, 2, "c", 1)
		wantKeys(t, c, 2)
		wantNone(t, c, 1)
		wantGet(t, c, 2, "c")
		if !c.Drop(2) || c.Drop(2) {
			t.Error("Drop")
		}
		wantStay(t, c, 3, "d")
		wantKeys(t, c, 3)
		c.Clear()
		wantKeys(t, c)
	}
}

// P4.1: as many as most are there, and none goes ahead of that; then one goes for each that comes.
func TestRoom(t *testing.T) {
	for most := 1; most <= 20; most++ {
		c := New[int](most)
		for k := range most {
			wantStay(t, c, k, -k)
			if len(c.Keys()) != k+1 {
				t.Fatalf("%d of %d: %v", k+1, most, c.Keys())
			}
		}
		for k := range 3 * most {
			wantGone(t, c, most+k, -most-k, k)
			wantNone(t, c, k)
			if len(c.Keys()) != most {
				t.Fatalf("of %d: %v", most, c.Keys())
			}
		}
	}
}

// P4.1: a most far above what is put costs nothing, and all stay.
func TestGreatRoom(t *testing.T) {
	for _, most := range []int{1 << 20, math.MaxInt32, math.MaxInt} {
		c := New[int](most)
		for k := range 3000 {
			wantStay(t, c, k, k*k)
		}
		for k := range 3000 {
			wantGet(t, c, k, k*k)
		}
		if n := len(c.Keys()); n != 3000 {
			t.Errorf("of %d: %d are there", most, n)
		}
	}
}

// P4.1: keys are any numbers: nought, negative and great ones; near ones are not one.
func TestKeysOfEveryKind(t *testing.T) {
	keys := []int{0, -1, 1, math.MinInt, math.MaxInt, math.MinInt + 1, math.MaxInt - 1, 1 << 32, -1 << 32, 1<<32 + 1, math.MaxInt32, math.MinInt32}
	c := filled(len(keys), keys...)
	for _, k := range keys {
		wantGet(t, c, k, strconv.Itoa(k))
	}
	for _, k := range []int{2, -2, 1<<32 - 1, -1<<32 - 1, math.MaxInt - 2, math.MinInt + 2} {
		wantNone(t, c, k)
		if c.Drop(k) {
			t.Errorf("Drop(%d)", k)
		}
	}
	// Key nought going is not the same as none going.
	for i, k := range keys {
		wantGone(t, c, 100+i, "", k)
	}
}

// P4.1: Get: the value, and it was used last, wherever it stood; of one that is not there nothing changes.
func TestGet(t *testing.T) {
	for _, x := range []struct {
		k    int
		want []int
	}{{4, []int{4, 3, 2, 1}}, {3, []int{3, 4, 2, 1}}, {2, []int{2, 4, 3, 1}}, {1, []int{1, 4, 3, 2}}} {
		c := filled(4, 1, 2, 3, 4)
		for range 2 {
			wantGet(t, c, x.k, strconv.Itoa(x.k))
			wantKeys(t, c, x.want...)
		}
		for _, k := range []int{0, 5, -1} {
			wantNone(t, c, k)
			wantKeys(t, c, x.want...)
		}
		for i := 3; i >= 0; i-- {
			wantGone(t, c, 10+i, "", x.want[i])
		}
	}
}

// P4.1: Put of a key that is there: the new value, it was used last, and none goes, also where there is no room left.
func TestPutAgain(t *testing.T) {
	for _, most := range []int{4, 5, 9} {
		for _, x := range []struct {
			k    int
			want []int
		}{{4, []int{4, 3, 2, 1}}, {3, []int{3, 4, 2, 1}}, {2, []int{2, 4, 3, 1}}, {1, []int{1, 4, 3, 2}}} {
			c := filled(most, 1, 2, 3, 4)
			for _, v := range []string{"new", "newer", "", "newest"} {
				wantStay(t, c, x.k, v)
				wantKeys(t, c, x.want...)
			}
			wantGet(t, c, x.k, "newest")
			for _, k := range x.want[1:] {
				wantGet(t, c, k, strconv.Itoa(k))
			}
		}
	}
}

// P4.1: who goes is the one that was used longest ago: by Put, Put again and Get, not by Keys, nor by a Get or a Drop of none.
func TestWhoGoes(t *testing.T) {
	c := filled(3, 1, 2, 3)
	wantGet(t, c, 1, "1")
	wantNone(t, c, 2000)
	wantKeys(t, c, 1, 3, 2)
	wantGone(t, c, 4, "4", 2)
	wantStay(t, c, 3, "x")
	wantKeys(t, c, 3, 4, 1)
	if c.Drop(2) {
		t.Error("Drop of one that is gone")
	}
	wantGone(t, c, 2, "2", 1)
	wantKeys(t, c, 2, 3, 4)
	wantGone(t, c, 1, "1", 4)
	wantGone(t, c, 5, "5", 3)
	wantKeys(t, c, 5, 1, 2)
}

// P4.1: Drop: was it there; who is left stands as it stood, and there is room for one more.
func TestDrop(t *testing.T) {
	for _, x := range []struct {
		k    int
		left []int
	}{{4, []int{3, 2, 1}}, {3, []int{4, 2, 1}}, {2, []int{4, 3, 1}}, {1, []int{4, 3, 2}}} {
		c := filled(4, 1, 2, 3, 4)
		if !c.Drop(x.k) {
			t.Errorf("Drop(%d): no", x.k)
		}
		wantKeys(t, c, x.left...)
		if c.Drop(x.k) || c.Drop(0) || c.Drop(-x.k) {
			t.Errorf("Drop of none")
		}
		wantKeys(t, c, x.left...)
		wantNone(t, c, x.k)
		wantStay(t, c, x.k, "back")
		wantKeys(t, c, append([]int{x.k}, x.left...)...)
		wantGone(t, c, 9, "9", x.left[2])
		wantGet(t, c, x.k, "back")
	}
}

// P4.1: Drop of all, from either end and from the middle, and use after it.
func TestDropAll(t *testing.T) {
	for _, order := range [][]int{{1, 2, 3}, {3, 2, 1}, {2, 1, 3}, {2, 3, 1}, {1, 3, 2}, {3, 1, 2}} {
		c := filled(3, 1, 2, 3)
		for i, k := range order {
			if !c.Drop(k) || len(c.Keys()) != 2-i {
				t.Errorf("%v: Drop(%d): %v", order, k, c.Keys())
			}
		}
		wantKeys(t, c)
		for _, k := range order {
			wantNone(t, c, k)
			wantStay(t, c, k, "again")
		}
		wantGone(t, c, 7, "", order[0])
		wantKeys(t, c, 7, order[2], order[1])
	}
}

// P4.1: Clear: none is there; most stays, and what was used ahead of it counts no more.
func TestClear(t *testing.T) {
	c := New[string](3)
	c.Clear()
	wantKeys(t, c)
	for range 3 {
		for k := 1; k <= 3; k++ {
			wantStay(t, c, k, "v")
		}
		wantGet(t, c, 1, "v")
		c.Clear()
		c.Clear()
		wantKeys(t, c)
		for k := 1; k <= 3; k++ {
			wantNone(t, c, k)
			if c.Drop(k) {
				t.Errorf("Drop(%d) after Clear", k)
			}
		}
		wantStay(t, c, 3, "w")
		wantStay(t, c, 2, "x")
		wantStay(t, c, 1, "y")
		wantKeys(t, c, 1, 2, 3)
		wantGone(t, c, 4, "z", 3)
		c.Clear()
	}
}

// P4.1: values of any type, told as they were put; beside a no, the zero value.
func TestValuesOfEveryType(t *testing.T) {
	type pair struct {
		a, b int
		s    string
	}
	n, why := 5, errors.New("why")
	valuesOf(t, 1, 0, -1, math.MaxInt)
	valuesOf(t, "", "a", "\x00\xff")
	valuesOf(t, true, false)
	valuesOf(t, 1.5, 0, math.Inf(-1))
	valuesOf(t, pair{1, 2, "x"}, pair{}, pair{s: "y"})
	valuesOf(t, [3]byte{1}, [3]byte{}, [3]byte{1, 2, 3})
	valuesOf(t, &n, nil, new(int))
	valuesOf[error](t, nil, why, errors.New("why"))
	valuesOf[any](t, 1, "1", nil, pair{})
	valuesOf(t, struct{}{}, struct{}{})
}

func valuesOf[V comparable](t *testing.T, values ...V) {
	t.Helper()
	c := New[V](len(values))
	for k, v := range values {
		wantNone(t, c, k)
		wantStay(t, c, k, v)
	}
	for k, v := range values {
		wantGet(t, c, k, v)
	}
	for k := range values {
		wantGone(t, c, -1-k, values[0], k)
		wantNone(t, c, k)
	}
	for k, v := range values {
		wantStay(t, c, -1-k, v)
		wantGet(t, c, -1-k, v)
	}
}

// P4.1: values that can't be held against each other: lists, maps, functions.
func TestValuesWithoutOrder(t *testing.T) {
	lists := New[[]byte](2)
	lists.Put(1, []byte("hello"))
	lists.Put(2, nil)
	if v, is := lists.Get(1); string(v) != "hello" || !is {
		t.Errorf("a list: %q %v", v, is)
	}
	if v, is := lists.Get(2); len(v) != 0 || !is {
		t.Errorf("no list: %q %v", v, is)
	}
	if v, is := lists.Get(3); v != nil || is {
		t.Errorf("none: %q %v", v, is)
	}
	calls := New[func() int](1)
	calls.Put(0, func() int { return 7 })
	if f, is := calls.Get(0); !is || f() != 7 {
		t.Error("a function")
	}
	caches := New[*Cache[int]](1)
	caches.Put(0, New[int](1))
	inner, _ := caches.Get(0)
	inner.Put(3, 4)
	again, _ := caches.Get(0)
	wantGet(t, again, 3, 4)
}

// P4.1: of a nil Cache: nothing, no, whatever was asked ahead of it.
func TestNoCache(t *testing.T) {
	var c *Cache[string]
	for range 2 {
		for _, k := range []int{0, 1, -1, math.MaxInt, math.MinInt} {
			wantNone(t, c, k)
			wantStay(t, c, k, "v")
			if c.Drop(k) {
				t.Errorf("Drop(%d) of none", k)
			}
		}
		wantKeys(t, c)
		c.Clear()
	}
}

// R3: Keys is new memory, its spare room too, and what was told stays as it was.
func TestNewMemory(t *testing.T) {
	c := New[int](4)
	spoil(c.Keys())
	for k := 1; k <= 3; k++ {
		c.Put(k, k)
		spoil(c.Keys())
	}
	wantKeys(t, c, 3, 2, 1)
	first, second := c.Keys(), c.Keys()
	spoil(first)
	c.Get(1)
	c.Put(4, 4)
	c.Put(5, 5)
	c.Drop(3)
	c.Clear()
	c.Put(9, 9)
	if !slices.Equal(second, []int{3, 2, 1}) || !slices.Equal(first, []int{-8, -8, -8}) {
		t.Errorf("lists that were told have changed: %v %v", first, second)
	}
	wantKeys(t, c, 9)
}

func spoil(l []int) {
	l = l[:cap(l)]
	for i := range l {
		l[i] = -8
	}
}

// R4: two caches do not know of each other.
func TestCachesStandAlone(t *testing.T) {
	a, b := filled(2, 1, 2), filled(2, 1, 2)
	a.Put(3, "a")
	a.Get(2)
	wantKeys(t, b, 2, 1)
	b.Clear()
	wantKeys(t, a, 2, 3)
	wantGet(t, a, 3, "a")
}

// plain is a cache as the promise has it: when each key was used, and nothing else made ready.
type plain struct {
	most, now int
	is        map[int]use
}

type use struct{ value, when int }

func (m *plain) put(k, v int) (int, bool) {
	m.now++
	m.is[k] = use{v, m.now}
	if len(m.is) <= m.most {
		return 0, false
	}
	keys := m.keys()
	gone := keys[len(keys)-1]
	delete(m.is, gone)
	return gone, true
}

func (m *plain) get(k int) (int, bool) {
	u, is := m.is[k]
	if is {
		m.now++
		m.is[k] = use{u.value, m.now}
	}
	return u.value, is
}

func (m *plain) keys() []int {
	var l []int
	for k := range m.is {
		l = append(l, k)
	}
	slices.SortFunc(l, func(a, b int) int { return m.is[b].when - m.is[a].when })
	return l
}

// step does one thing to both, and holds what they tell against each other.
func step(t *testing.T, c *Cache[int], m *plain, what, k, v int) {
	t.Helper()
	switch what {
	case 0:
		got, is := c.Get(k)
		if want, was := m.get(k); got != want || is != was {
			t.Fatalf("Get(%d) = %d, %v; want %d, %v", k, got, is, want, was)
		}
	case 1:
		gone, is := c.Put(k, v)
		if want, was := m.put(k, v); gone != want || is != was {
			t.Fatalf("Put(%d) = %d, %v; want %d, %v", k, gone, is, want, was)
		}
	case 2:
		_, was := m.is[k]
		delete(m.is, k)
		if c.Drop(k) != was {
			t.Fatalf("Drop(%d) = %v", k, !was)
		}
	case 3:
		clear(m.is)
		c.Clear()
	}
	l := c.Keys()
	if want := m.keys(); !slices.Equal(l, want) || len(l) > m.most {
		t.Fatalf("Keys = %v of %d; want %v", l, m.most, want)
	}
}

// P4.1: every short run of calls, held against the plain cache.
func TestShortRuns(t *testing.T) {
	const calls, length = 10, 5
	for most := range 4 {
		for run := range calls * calls * calls * calls * calls {
			c, m := New[int](most), &plain{most: max(most, 1), is: map[int]use{}}
			for i := range length {
				call := run % calls
				run /= calls
				step(t, c, m, call/3, call%3-1, i+1)
			}
		}
	}
}

// P4.1, what follows: there are never more than most, in long runs of calls.
func TestLongRuns(t *testing.T) {
	r := rand.New(rand.NewSource(4))
	for run := range 300 {
		most := run % 30
		c, m := New[int](most), &plain{most: max(most, 1), is: map[int]use{}}
		for i := range 500 {
			what := []int{0, 0, 0, 1, 1, 1, 1, 2}[r.Intn(8)]
			if r.Intn(200) == 0 {
				what = 3
			}
			step(t, c, m, what, r.Intn(40)-20, i)
		}
	}
}

package weigh

import (
	"math"
	"math/rand"
	"regexp"
	"strconv"
	"strings"
	"testing"

	"eyot/api"
)

var minusNought = math.Copysign(0, -1)

// sameBits is stricter than Same, and does not lean on it.
func sameBits(a, b float64) bool {
	return math.IsNaN(a) && math.IsNaN(b) || math.Float64bits(a) == math.Float64bits(b)
}

// P1.1: what is read.
func TestParseNumbers(t *testing.T) {
	for _, c := range []struct {
		s    string
		want float64
	}{
		{"nan", math.NaN()}, {"inf", math.Inf(1)}, {"-inf", math.Inf(-1)},
		{"0", 0}, {"-0", minusNought}, {"0.0", 0}, {"-0.0", minusNought}, {"-0.00000000000000", minusNought}, {"000", 0},
		{"1", 1}, {"-1", -1}, {"007", 7}, {"-007", -7}, {"42", 42},
		{"1.25", 1.25}, {"-3.5", -3.5}, {"0.1", 0.1}, {"1.10", 1.1}, {"12.0", 12}, {"0.3", 0.3},
		{"999999999999999", 999999999999999}, {"-999999999999999", -999999999999999},
		{"000000000000001", 1}, {"99999999999999.9", 99999999999999.9}, {"9.99999999999999", 9.99999999999999},
		{"0.00000000000001", 1e-14}, {"-0.00000000000001", -1e-14}, {"1234567.89012345", 1234567.89012345},
	} {
		if x, e := Parse(c.s); !sameBits(x, c.want) || e != api.OK {
			t.Errorf("Parse(%q) = %v, %d; want %v", c.s, x, e, c.want)
		}
	}
}

// P1.1: what is not.
func TestParseErrForm(t *testing.T) {
	for _, s := range []string{
		"", " ", "-", "--", ".", "-.", "..", "1.", "-1.", ".5", "-.5", "1..2", "1.2.3", "1.2.", "1.-2", "1-", "1-2", "--1", "+1", "-+1", "+-1",
		"1e3", "1E3", "0x1", "1_000", "1,5", " 1", "1 ", "- 1", "1\n", "\x001", "1\x00", "/", ":", "1/", "1:",
		"Nan", "NaN", "NAN", "-nan", "+nan", "nan ", "nan0", "na", "Inf", "INF", "+inf", "--inf", "infx", "in", "-in", "-infinity", "infinity", "-Inf",
		"1234567890123456", "-1234567890123456", "0000000000000000", "0000000000000001",
		"123456789012345.6", "1.234567890123456", "-1.234567890123456", "0.000000000000000", "00000000.00000001",
		"18446744073709551617", "340282366920938463463374607431768211457",
		"\u0661", "\uff11", "\xff", "1\xff", "1.\xff", "\u221e",
		strings.Repeat("1", 1<<16), strings.Repeat("-", 1<<16), strings.Repeat("1.", 1<<16), "0." + strings.Repeat("0", 1<<16),
	} {
		if x, e := Parse(s); !sameBits(x, 0) || e != api.ErrForm {
			t.Errorf("Parse(%.40q) = %v, %d; want 0, ErrForm", s, x, e)
		}
	}
}

// Every split of 15 digits by a point is a number's text, none of 16 is.
func TestParseCountsDigits(t *testing.T) {
	const digits = "9876543210123456"
	for n := 1; n <= 16; n++ {
		for d := 0; d < n; d++ {
			s := digits[:n]
			if d > 0 {
				s = digits[:n-d] + "." + digits[n-d:n]
			}
			checkAgainstLibrary(t, s)
			checkAgainstLibrary(t, "-"+s)
		}
	}
}

var numberText = regexp.MustCompile(`\A-?([0-9]+)(?:\.([0-9]+))?\z`)

// expected tells what the chapter asks, by other means than Parse has. The division of two whole numbers that float64 holds is rounded just as the library rounds the text.
func expected(s string) (float64, api.Errno) {
	switch s {
	case "nan":
		return math.NaN(), api.OK
	case "inf":
		return math.Inf(1), api.OK
	case "-inf":
		return math.Inf(-1), api.OK
	}
	m := numberText.FindStringSubmatch(s)
	if m == nil || len(m[1])+len(m[2]) > 15 {
		return 0, api.ErrForm
	}
	x, err := strconv.ParseFloat(s, 64)
	if err != nil {
		panic(err)
	}
	return x, api.OK
}

func checkAgainstLibrary(t *testing.T, s string) {
	t.Helper()
	x, e := Parse(s)
	want, wantErr := expected(s)
	if !sameBits(x, want) || e != wantErr {
		t.Errorf("Parse(%q) = %v, %d; want %v, %d", s, x, e, want, wantErr)
	}
}

func TestParseAllShortTexts(t *testing.T) {
	const letters = "-.0195+einaf "
	level := []string{""}
	for range 5 {
		var next []string
		for _, s := range level {
			checkAgainstLibrary(t, s)
			for i := range len(letters) {
				next = append(next, s+letters[i:i+1])
			}
		}
		level = next
	}
}

func TestParseEveryByte(t *testing.T) {
	for b := range 256 {
		c := string([]byte{byte(b)})
		for _, s := range []string{c, c + "1", "1" + c, "1" + c + "2", "1.2" + c, "-" + c, "1.2" + c + "3"} {
			checkAgainstLibrary(t, s)
		}
	}
}

func TestParseManyNumbers(t *testing.T) {
	r := rand.New(rand.NewSource(1))
	for range 100000 {
		n := 1 + r.Intn(16)
		b := make([]byte, n)
		for i := range b {
			b[i] = byte('0' + r.Intn(10))
		}
		s := string(b)
		if d := r.Intn(n + 1); d > 0 { // d == n: a point with no digit ahead of it
			s = s[:n-d] + "." + s[n-d:]
		}
		if r.Intn(2) == 0 {
			s = "-" + s
		}
		checkAgainstLibrary(t, s)
	}
}

func FuzzParse(f *testing.F) {
	for _, s := range []string{"nan", "-inf", "-0", "1.25", "1.", ".5", "1234567890123456", ""} {
		f.Add(s)
	}
	f.Fuzz(checkAgainstLibrary)
}

// line: numbers as Order has them, rising, each with its Kind and Key as the chapter's words give them.
var line = []struct {
	a    float64
	kind int
	key  uint64
}{
	{math.Inf(-1), 1, 0x000fffffffffffff},
	{-math.MaxFloat64, 2, 0x0010000000000000},
	{-2, 2, 0x3fffffffffffffff},
	{-1.5, 2, 0x4007ffffffffffff},
	{-1, 2, 0x400fffffffffffff},
	{-0x1p-1022, 2, 0x7fefffffffffffff},
	{-math.SmallestNonzeroFloat64, 2, 0x7ffffffffffffffe},
	{minusNought, 3, 0x7fffffffffffffff},
	{0, 4, 0x8000000000000000},
	{math.SmallestNonzeroFloat64, 5, 0x8000000000000001},
	{0x1p-1022, 5, 0x8010000000000000},
	{1, 5, 0xbff0000000000000},
	{1.5, 5, 0xbff8000000000000},
	{2, 5, 0xc000000000000000},
	{math.MaxFloat64, 5, 0xffefffffffffffff},
	{math.Inf(1), 6, 0xfff0000000000000},
	{math.NaN(), 0, 0xffffffffffffffff},
}

// nans: quiet and signalling ones, of both signs, with other bits.
var nans = []float64{
	math.NaN(),
	math.Float64frombits(0x7ff8000000000000),
	math.Float64frombits(0x7ff8000000000123),
	math.Float64frombits(0x7ff0000000000001),
	math.Float64frombits(0x7fffffffffffffff),
	math.Float64frombits(0xfff8000000000000),
	math.Float64frombits(0xfff0000000000001),
	math.Float64frombits(0xffffffffffffffff),
}

// P1.2: Order and Same, of every two.
func TestOrderAndSame(t *testing.T) {
	for i, x := range line {
		for k, y := range line {
			want := max(-1, min(1, i-k))
			if got := Order(x.a, y.a); got != want {
				t.Errorf("Order(%v, %v) = %d; want %d", x.a, y.a, got, want)
			}
			if got := Same(x.a, y.a); got != (i == k) {
				t.Errorf("Same(%v, %v) = %v", x.a, y.a, got)
			}
		}
	}
}

// P1.2: Key, Of and Kind, one by one.
func TestKeyOfKind(t *testing.T) {
	for _, x := range line {
		if got := Key(x.a); got != x.key {
			t.Errorf("Key(%v) = %#x; want %#x", x.a, got, x.key)
		}
		if got := Of(x.key); !sameBits(got, x.a) {
			t.Errorf("Of(%#x) = %v; want %v", x.key, got, x.a)
		}
		if got := Kind(x.a); got != x.kind {
			t.Errorf("Kind(%v) = %d; want %d", x.a, got, x.kind)
		}
	}
}

// P1.2: all NaNs are alike, and behind all else.
func TestNaNsAreAlike(t *testing.T) {
	for _, a := range nans {
		if Key(a) != math.MaxUint64 || Kind(a) != 0 {
			t.Errorf("NaN %#x: Key %#x, Kind %d", math.Float64bits(a), Key(a), Kind(a))
		}
		for _, b := range nans {
			if Order(a, b) != 0 || !Same(a, b) {
				t.Errorf("NaNs %#x, %#x: Order %d", math.Float64bits(a), math.Float64bits(b), Order(a, b))
			}
		}
		for _, x := range line[:len(line)-1] {
			if Order(a, x.a) != 1 || Order(x.a, a) != -1 || Same(a, x.a) || Same(x.a, a) {
				t.Errorf("NaN %#x and %v", math.Float64bits(a), x.a)
			}
		}
	}
}

// P1.2: keys that no number has.
func TestOfNone(t *testing.T) {
	for _, k := range []uint64{0, 1, 5, 0x0007ffffffffffff, 0x000ffffffffffffe, 0xfff0000000000001, 0xfff8000000000000, 0xfffffffffffffffe, math.MaxUint64} {
		if a := Of(k); !math.IsNaN(a) {
			t.Errorf("Of(%#x) = %v; want NaN", k, a)
		}
	}
}

// slowOrder is Order told by the words of the chapter, with no look at bits.
func slowOrder(a, b float64) int {
	if math.IsNaN(a) || math.IsNaN(b) {
		return truth(math.IsNaN(a)) - truth(math.IsNaN(b))
	}
	if a == 0 && b == 0 {
		return truth(math.Signbit(b)) - truth(math.Signbit(a))
	}
	return truth(a > b) - truth(a < b)
}

func truth(b bool) int {
	if b {
		return 1
	}
	return 0
}

// What follows: Order is a line, and keys stand as it does.
func TestKeysStandAsOrderDoes(t *testing.T) {
	r := rand.New(rand.NewSource(2))
	var some []float64
	for _, x := range line {
		some = append(some, x.a, math.Nextafter(x.a, 0), math.Nextafter(x.a, math.Inf(1)), math.Nextafter(x.a, math.Inf(-1)))
	}
	some = append(some, nans...)
	for range 500 {
		some = append(some, math.Float64frombits(r.Uint64()), float64(r.Intn(9)-4), r.NormFloat64())
	}
	for _, a := range some {
		if !sameBits(Of(Key(a)), a) {
			t.Errorf("Of(Key(%v)) = %v", a, Of(Key(a)))
		}
		for _, b := range some {
			want := slowOrder(a, b)
			if Order(a, b) != want || Same(a, b) != (want == 0) || truth(Key(a) > Key(b))-truth(Key(a) < Key(b)) != want {
				t.Fatalf("%v, %v: Order %d, Same %v, keys %#x, %#x; want %d", a, b, Order(a, b), Same(a, b), Key(a), Key(b), want)
			}
		}
	}
}

// Of every key there is the number, or NaN if no number has it.
func TestKeyOfOf(t *testing.T) {
	r := rand.New(rand.NewSource(3))
	least, most := Key(math.Inf(-1)), Key(math.Inf(1))
	keys := []uint64{least - 1, least, least + 1, most - 1, most, most + 1}
	for range 100000 {
		keys = append(keys, r.Uint64(), r.Uint64()>>uint(r.Intn(64)), ^(r.Uint64() >> uint(r.Intn(64))))
	}
	for _, k := range keys {
		a := Of(k)
		if k < least || k > most {
			if !math.IsNaN(a) {
				t.Errorf("Of(%#x) = %v; want NaN", k, a)
			}
		} else if math.IsNaN(a) || Key(a) != k {
			t.Errorf("Key(Of(%#x)) = %#x", k, Key(a))
		}
	}
}

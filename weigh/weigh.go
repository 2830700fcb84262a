// Package weigh: numbers with edges: see doc/01-weigh.md.
package weigh

import (
	"cmp"
	"math"
	"strings"

	"eyot/api"
)

// So few digits make a whole number, and a power of ten, that float64 holds without loss: the one division is all that rounds.
const mostDigits = 15

const (
	signBit = uint64(1) << 63
	nanKey  = uint64(math.MaxUint64)
)

// What Kind tells, in its numbers.
const (
	kindNaN = iota
	kindNegativeInfinity
	kindBelowNought
	kindNegativeNought
	kindNought
	kindAboveNought
	kindInfinity
)

// Parse reads a number's text; ErrForm: s is none.
func Parse(s string) (x float64, e api.Errno) {
	defer func() {
		if recover() != nil {
			x, e = 0, api.ErrForm
		}
	}()
	switch s {
	case "nan":
		return math.NaN(), api.OK
	case "inf":
		return math.Inf(1), api.OK
	case "-inf":
		return math.Inf(-1), api.OK
	}
	rest, negative := strings.CutPrefix(s, "-")
	x = unsigned(rest)
	if negative {
		// The sign is put on last, since a whole number can't hold that of nought.
		x = -x
	}
	return x, api.OK
}

// unsigned panics where s is not digits with, perhaps, a point between them.
func unsigned(s string) float64 {
	whole, behind, point := strings.Cut(s, ".")
	must(whole != "")
	must(behind != "" || !point)
	// Asked ahead of reading, so that no sum of digits can wrap round.
	must(len(whole)+len(behind) <= mostDigits)
	return float64(wholeNumber(whole+behind)) / float64(powerOfTen(len(behind)))
}

// wholeNumber panics where s is not digits alone.
func wholeNumber(s string) int64 {
	n := int64(0)
	for i := range len(s) {
		must('0' <= s[i] && s[i] <= '9')
		n = n*10 + int64(s[i]-'0')
	}
	return n
}

func powerOfTen(d int) int64 {
	p := int64(1)
	for range d {
		p *= 10
	}
	return p
}

// must ends the reading from however deep within; Parse recovers.
func must(ok bool) {
	if !ok {
		panic(api.ErrForm)
	}
}

// Order is -1, 0 or 1: the infinities at their ends, the negative nought ahead of nought, NaN behind all.
func Order(a, b float64) int {
	// Floats can't be asked themselves: to them the noughts are alike, and NaN stands nowhere.
	return cmp.Compare(Key(a), Key(b))
}

// Same tells whether Order is 0.
func Same(a, b float64) bool { return Order(a, b) == 0 }

// Key is a whole number that stands as Order has it.
func Key(a float64) uint64 {
	// All NaNs are alike, whatever their bits and sign.
	if math.IsNaN(a) {
		return nanKey
	}
	bits := math.Float64bits(a)
	// Below nought greater bits are farther down, so all of them turn.
	if math.Signbit(a) {
		return ^bits
	}
	return bits ^ signBit
}

// Of is the number whose Key is k; NaN: there is none.
func Of(k uint64) float64 {
	a := math.Float64frombits(bitsOf(k))
	// Keys beyond those of the infinities lead to bits of NaNs, of which none is to be told from another.
	if math.IsNaN(a) {
		return math.NaN()
	}
	return a
}

func bitsOf(k uint64) uint64 {
	if k&signBit == 0 {
		return ^k
	}
	return k ^ signBit
}

// Kind is 0 NaN, 1 the negative infinity, 2 below nought, 3 the negative nought, 4 nought, 5 above it, 6 the positive infinity.
func Kind(a float64) int {
	switch {
	case math.IsNaN(a):
		return kindNaN
	case a == math.Inf(-1):
		return kindNegativeInfinity
	case a < 0:
		return kindBelowNought
	case a == 0 && math.Signbit(a):
		return kindNegativeNought
	case a == 0:
		return kindNought
	case a < math.Inf(1):
		return kindAboveNought
	}
	return kindInfinity
}

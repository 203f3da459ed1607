package flt_test

import (
	"math"
	"math/big"
	"slices"
	"testing"

	"whitewash/api"
	"whitewash/flt"
)

const minusZero uint64 = 1 << 63

// nans are words of NaNs, of either sign, quiet and signalling, at the edges of their ranges.
var nans = []uint64{
	api.NaN, 0x7ff0000000000001, 0x7ff7ffffffffffff, 0x7ff8000000000000, 0x7ff8000000000002, 0x7fffffffffffffff,
	0xfff0000000000001, 0xfff7ffffffffffff, 0xfff8000000000000, 0xfff8000000000001, 0xffffffffffffffff,
}

// rising are numbers and both that are infinite, each less than the next one.
var rising = []float64{
	math.Inf(-1), -math.MaxFloat64, -1e300, -3, -2, math.Nextafter(-1, -2), -1, math.Nextafter(-1, 0), -0.5,
	-0x1p-1022, -0x0.fffffffffffffp-1022, -2 * math.SmallestNonzeroFloat64, -math.SmallestNonzeroFloat64,
	0,
	math.SmallestNonzeroFloat64, 2 * math.SmallestNonzeroFloat64, 0x0.fffffffffffffp-1022, 0x1p-1022,
	0.5, math.Nextafter(1, 0), 1, math.Nextafter(1, 2), 2, 3, 1e300, math.MaxFloat64, math.Inf(1),
}

func bits(f float64) uint64 { return math.Float64bits(f) }

// edges are all of rising, minus zero and all of nans, as words.
func edges() []uint64 {
	ws := []uint64{minusZero}
	for _, f := range rising {
		ws = append(ws, bits(f))
	}
	return append(ws, nans...)
}

// scattered are n words, the same ones each time, spread over all kinds and exponents.
func scattered(n int) []uint64 {
	ws := make([]uint64, n)
	x := uint64(88172645463325252)
	for i := range ws {
		x ^= x << 13
		x ^= x >> 7
		x ^= x << 17
		ws[i] = x
		if i%7 == 0 { // exponents of all ones, or of none, are rare
			ws[i] |= 0x7ff << 52
		} else if i%7 == 1 {
			ws[i] &^= 0x7ff << 52
		}
	}
	return ws
}

func isNaNs(w uint64) bool { return math.IsNaN(math.Float64frombits(w)) }

func isCanonical(w uint64) bool { return w != minusZero && (w == api.NaN || !isNaNs(w)) }

// A1

func TestCanonOfZeros(t *testing.T) {
	for _, w := range []uint64{0, minusZero} {
		if got := flt.Canon(w); got != 0 {
			t.Errorf("Canon(%#x) = %#x", w, got)
		}
		if got := flt.Kind(w); got != api.Zero {
			t.Errorf("Kind(%#x) = %d", w, got)
		}
	}
}

func TestCanonOfNaNs(t *testing.T) {
	for _, w := range nans {
		if got := flt.Canon(w); got != api.NaN {
			t.Errorf("Canon(%#x) = %#x", w, got)
		}
		if got := flt.Kind(w); got != api.None {
			t.Errorf("Kind(%#x) = %d", w, got)
		}
	}
}

func TestCanonOfInfinite(t *testing.T) {
	for _, w := range []uint64{api.Inf, api.NegInf} {
		if got := flt.Canon(w); got != w {
			t.Errorf("Canon(%#x) = %#x", w, got)
		}
		if got := flt.Kind(w); got != api.Infinite {
			t.Errorf("Kind(%#x) = %d", w, got)
		}
	}
}

func TestCanonOfNumbers(t *testing.T) {
	for _, w := range []uint64{
		1, 2, minusZero + 1, 0x000fffffffffffff, 0x0010000000000000, bits(1), bits(-1), bits(0.1), bits(-3),
		api.Inf - 1, api.NegInf - 1,
	} {
		if got := flt.Canon(w); got != w {
			t.Errorf("Canon(%#x) = %#x", w, got)
		}
		if got := flt.Kind(w); got != api.Finite {
			t.Errorf("Kind(%#x) = %d", w, got)
		}
	}
}

func TestCanonKeepsWhatIsMeant(t *testing.T) {
	for _, w := range append(edges(), scattered(2000)...) {
		c := flt.Canon(w)
		f, g := math.Float64frombits(w), math.Float64frombits(c)
		if !isCanonical(c) || flt.Canon(c) != c || f != g && !(math.IsNaN(f) && math.IsNaN(g)) {
			t.Errorf("Canon(%#x) = %#x", w, c)
		}
		if flt.Kind(c) != flt.Kind(w) {
			t.Errorf("Kind(%#x) = %d, of its Canon %d", w, flt.Kind(w), flt.Kind(c))
		}
	}
}

// A2

func TestRank(t *testing.T) {
	for _, x := range []struct{ w, rank uint64 }{
		{0, 1 << 63}, {minusZero, 1 << 63}, {1, 1<<63 + 1}, {minusZero + 1, 1<<63 - 2},
		{bits(1), 0xbff0000000000000}, {bits(-1), 0x400fffffffffffff}, {bits(2), 0xc000000000000000}, {bits(-2), 0x3fffffffffffffff},
		{bits(math.MaxFloat64), 0xffefffffffffffff}, {bits(-math.MaxFloat64), 1 << 52},
		{api.Inf, 0xfff0000000000000}, {api.NegInf, 1<<52 - 1},
	} {
		if got := flt.Rank(x.w); got != x.rank {
			t.Errorf("Rank(%#x) = %#x, not %#x", x.w, got, x.rank)
		}
		if w, is := flt.Word(x.rank); w != flt.Canon(x.w) || !is {
			t.Errorf("Word(%#x) = %#x, %t", x.rank, w, is)
		}
	}
}

func TestRankOfNaNs(t *testing.T) {
	for _, w := range nans {
		if got := flt.Rank(w); got != 0xfff8000000000001 {
			t.Errorf("Rank(%#x) = %#x", w, got)
		}
	}
	if w, is := flt.Word(0xfff8000000000001); w != api.NaN || !is {
		t.Errorf("Word of NaN's rank = %#x, %t", w, is)
	}
}

func TestWordOfNoRank(t *testing.T) {
	for _, r := range []uint64{
		0, 1, 1<<51 - 1, 1<<51 - 2, 1 << 51, 1<<52 - 3, 1<<52 - 2, // turned, those of NaNs below
		1<<63 - 1,                                                                                            // turned, that of minus zero
		0xfff0000000000001, 0xfff7ffffffffffff, 0xfff8000000000000, 0xfff8000000000002, 1<<64 - 2, 1<<64 - 1, // those of NaNs above, but NaN
	} {
		if w, is := flt.Word(r); w != 0 || is {
			t.Errorf("Word(%#x) = %#x, %t", r, w, is)
		}
	}
}

func TestWordAnswersCanonicalWordsAlone(t *testing.T) {
	for _, r := range append(edges(), scattered(2000)...) {
		w, is := flt.Word(r)
		switch {
		case is && (!isCanonical(w) || flt.Rank(w) != r):
			t.Errorf("Word(%#x) = %#x, whose rank is %#x", r, w, flt.Rank(w))
		case !is && w != 0:
			t.Errorf("Word(%#x) = %#x, false", r, w)
		case !is && (isCanonical(^r) && r < 1<<63 || isCanonical(r-1<<63) && r >= 1<<63):
			t.Errorf("Word(%#x) is none", r)
		}
	}
}

// A3

func TestLessIsByRank(t *testing.T) {
	for _, a := range edges() {
		for _, b := range edges() {
			if got := flt.Less(a, b); got != (flt.Rank(a) < flt.Rank(b)) {
				t.Errorf("Less(%#x, %#x) = %t", a, b, got)
			}
		}
	}
	if flt.Less(minusZero, 0) || flt.Less(0, minusZero) {
		t.Error("zeros are not the same")
	}
}

func TestMax(t *testing.T) {
	for _, x := range [][3]uint64{
		{bits(1), bits(2), bits(2)}, {bits(-1), bits(-2), bits(-1)}, {bits(-1), bits(1), bits(1)}, {bits(5), bits(5), bits(5)},
		{minusZero, minusZero, 0}, {minusZero, 0, 0}, {minusZero, bits(-1), 0}, {minusZero, 1, 1}, {minusZero, minusZero + 1, 0},
		{api.Inf, bits(math.MaxFloat64), api.Inf}, {api.NegInf, bits(-math.MaxFloat64), bits(-math.MaxFloat64)}, {api.Inf, api.NegInf, api.Inf},
		{api.NaN, api.Inf, api.NaN}, {0xfff8000000000000, api.Inf, api.NaN}, {0xffffffffffffffff, 0x7ff0000000000001, api.NaN}, {api.NegInf, 0xfff0000000000001, api.NaN},
	} {
		if got := flt.Max(x[0], x[1]); got != x[2] {
			t.Errorf("Max(%#x, %#x) = %#x", x[0], x[1], got)
		}
		if got := flt.Max(x[1], x[0]); got != x[2] {
			t.Errorf("Max(%#x, %#x) = %#x", x[1], x[0], got)
		}
	}
}

func TestSum(t *testing.T) {
	minus := math.Copysign(0, -1)
	for _, x := range [][3]float64{
		{1, 2, 3}, {-1.5, 0.25, -1.25}, {1, -1, 0}, {minus, minus, 0}, {minus, 0, 0}, {minus, 7, 7},
		{0.1, 0.2, 0.30000000000000004},                                  // to the nearest
		{1, 0x1p-53 + 0x1p-105, 1 + 0x1p-52}, {1, 0x1p-53 - 0x1p-106, 1}, // just above and below half-way
		{1 << 53, 1, 1 << 53}, {1<<53 + 2, 1, 1<<53 + 4}, {-1 << 53, -1, -1 << 53}, // to the even one
		{1, 0x1p-53, 1}, {1 + 0x1p-52, 0x1p-53, 1 + 0x1p-51}, // to the even one, of fractions
		{5e-324, 5e-324, 1e-323}, {0x1p-1022, -5e-324, 0x0.fffffffffffffp-1022}, // below the least full exponent
		{math.MaxFloat64, math.MaxFloat64, math.Inf(1)},                               // too great
		{-math.MaxFloat64, -math.MaxFloat64, math.Inf(-1)},                            // and below
		{math.MaxFloat64, 0x1p970, math.Inf(1)},                                       // half-way to what is too great
		{math.MaxFloat64, math.Nextafter(0x1p970, 0), math.MaxFloat64},                // just below that
		{math.Inf(1), -5, math.Inf(1)}, {math.Inf(-1), math.MaxFloat64, math.Inf(-1)}, // one that is infinite
		{math.Inf(1), math.Inf(1), math.Inf(1)}, {math.Inf(-1), math.Inf(-1), math.Inf(-1)}, // two
		{math.Inf(1), minus, math.Inf(1)}, {math.MaxFloat64, -math.MaxFloat64, 0}, {3, 0, 3}, // and what leaves the other
	} {
		if got := flt.Sum(bits(x[0]), bits(x[1])); got != bits(x[2]) {
			t.Errorf("Sum of %g and %g = %g", x[0], x[1], math.Float64frombits(got))
		}
		if got := flt.Sum(bits(x[1]), bits(x[0])); got != bits(x[2]) {
			t.Errorf("Sum of %g and %g = %g", x[1], x[0], math.Float64frombits(got))
		}
	}
}

func TestSumIsNaN(t *testing.T) {
	if got := flt.Sum(api.Inf, api.NegInf); got != api.NaN {
		t.Errorf("Sum(Inf, NegInf) = %#x", got)
	}
	if got := flt.Sum(api.NegInf, api.Inf); got != api.NaN {
		t.Errorf("Sum(NegInf, Inf) = %#x", got)
	}
	for _, n := range nans {
		for _, w := range edges() {
			if flt.Sum(n, w) != api.NaN || flt.Sum(w, n) != api.NaN {
				t.Errorf("Sum(%#x, %#x) = %#x, %#x", n, w, flt.Sum(n, w), flt.Sum(w, n))
			}
		}
	}
}

// exactSum adds without rounding, then rounds once: another way to the same sum. Both are finite.
func exactSum(a, b uint64) uint64 {
	x := new(big.Float).SetPrec(2200).SetFloat64(math.Float64frombits(a))
	y := new(big.Float).SetPrec(2200).SetFloat64(math.Float64frombits(b))
	f, _ := x.Add(x, y).Float64()
	if f == 0 {
		return 0
	}
	return bits(f)
}

func TestSumIsRoundedOnce(t *testing.T) {
	ws := append(edges(), scattered(500)...)
	for i, a := range ws {
		// Of two with far exponents the sum is just one of them: so the second one is also taken near the first.
		for _, b := range []uint64{ws[len(ws)-1-i], a ^ 0x0010000000000001, a ^ 0x80100000deadbeef, a ^ 0x03400000_00000001} {
			if flt.Kind(a) > api.Finite || flt.Kind(b) > api.Finite {
				continue
			}
			if got, want := flt.Sum(a, b), exactSum(a, b); got != want {
				t.Errorf("Sum(%#x, %#x) = %#x, not %#x", a, b, got, want)
			}
		}
	}
}

// A4

func TestWordUndoesRank(t *testing.T) {
	for _, w := range append(edges(), scattered(5000)...) {
		if got, is := flt.Word(flt.Rank(w)); got != flt.Canon(w) || !is || isCanonical(w) && got != w {
			t.Errorf("Word(Rank(%#x)) = %#x, %t", w, got, is)
		}
	}
}

func TestOrderIsThatOfFloats(t *testing.T) {
	ws := append(edges(), scattered(300)...)
	for _, a := range ws {
		for _, b := range ws {
			f, g := math.Float64frombits(a), math.Float64frombits(b)
			want := f < g || !math.IsNaN(f) && math.IsNaN(g)
			if got := flt.Less(a, b); got != want {
				t.Errorf("Less of %g and %g = %t", f, g, got)
			}
		}
	}
}

func TestFirstAndLast(t *testing.T) {
	for i, f := range rising {
		for k, g := range rising {
			if flt.Less(bits(f), bits(g)) != (i < k) {
				t.Errorf("Less of %g and %g = %t", f, g, i >= k)
			}
		}
		for _, n := range nans {
			if !flt.Less(bits(f), n) || flt.Less(n, bits(f)) {
				t.Errorf("%#x is not behind %g", n, f)
			}
		}
	}
	for _, w := range append(edges(), scattered(2000)...) {
		if flt.Less(w, api.NegInf) || flt.Less(api.NaN, w) {
			t.Errorf("%#x is ahead of the first or behind the last", w)
		}
	}
}

func TestOrderOfTwo(t *testing.T) {
	ws := append(edges(), scattered(300)...)
	for _, a := range ws {
		for _, b := range ws {
			if flt.Max(a, b) != flt.Max(b, a) {
				t.Errorf("Max(%#x, %#x) hangs on the order", a, b)
			}
			if flt.Sum(a, b) != flt.Sum(b, a) {
				t.Errorf("Sum(%#x, %#x) hangs on the order", a, b)
			}
			if m := flt.Max(a, b); !isCanonical(m) || m != flt.Canon(a) && m != flt.Canon(b) || flt.Less(m, a) || flt.Less(m, b) {
				t.Errorf("Max(%#x, %#x) = %#x", a, b, m)
			}
			if s := flt.Sum(a, b); !isCanonical(s) {
				t.Errorf("Sum(%#x, %#x) = %#x", a, b, s)
			}
		}
	}
}

func TestMaxOfThree(t *testing.T) {
	ws := append(edges(), scattered(40)...)
	for _, a := range ws {
		for _, b := range ws {
			for _, c := range ws {
				first := flt.Max(flt.Max(a, b), c)
				if others := []uint64{flt.Max(a, flt.Max(b, c)), flt.Max(flt.Max(a, c), b)}; slices.ContainsFunc(others, func(o uint64) bool { return o != first }) {
					t.Errorf("Max of %#x, %#x and %#x: %#x, or %#x", a, b, c, first, others)
				}
			}
		}
	}
}

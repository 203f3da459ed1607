package region_test

import (
	"math"
	"testing"

	"whitewash/api"
	"whitewash/region"
)

// misfits are configurations that differ from one that fits by what makes them wrong, and some that are wrong altogether.
var misfits = []api.Conf{
	{},
	{Kind: 0, Procs: 1, Cap: 1},
	{Kind: 6, Procs: 1, Cap: 1},
	{Kind: -1, Procs: 1, Cap: 1},
	{Kind: math.MinInt, Procs: 1, Cap: 1},
	{Kind: math.MaxInt, Procs: 1, Cap: 1},
	{Kind: 2, Procs: 0, Cap: 3},
	{Kind: 2, Procs: 17, Cap: 3},
	{Kind: 2, Procs: -1, Cap: 3},
	{Kind: 2, Procs: math.MinInt, Cap: 3},
	{Kind: 2, Procs: math.MaxInt, Cap: 3},
	{Kind: 3, Procs: 2, Cap: 0},
	{Kind: 3, Procs: 2, Cap: 257},
	{Kind: 3, Procs: 2, Cap: -1},
	{Kind: 3, Procs: 2, Cap: math.MinInt},
	{Kind: 3, Procs: 2, Cap: math.MaxInt},
	{Kind: 1, Procs: 1, Cap: 0},
	{Kind: 1, Procs: 1, Cap: 257},
	{Kind: math.MaxInt, Procs: math.MaxInt, Cap: math.MaxInt},
	{Kind: math.MinInt, Procs: math.MinInt, Cap: math.MinInt},
}

// everyFit goes through all configurations that fit.
func everyFit(yield func(api.Conf) bool) {
	for kind := 1; kind <= 5; kind++ {
		for procs := 1; procs <= 16; procs++ {
			for room := 1; room <= 256; room++ {
				if !yield(api.Conf{Kind: kind, Procs: procs, Cap: room}) {
					return
				}
			}
		}
	}
}

// someFits goes through configurations small enough that each of their places may be looked at.
func someFits(yield func(api.Conf) bool) {
	for c := range everyFit {
		ends := c.Procs <= 3 && c.Cap <= 4 || (c.Procs == 1 || c.Procs == 16) && (c.Cap == 1 || c.Cap == 256)
		if ends && !yield(c) {
			return
		}
	}
}

// D1

func TestFits(t *testing.T) {
	for c := range everyFit {
		if !region.Fits(c) {
			t.Fatalf("%+v does not fit", c)
		}
	}
}

func TestFitsNot(t *testing.T) {
	for _, c := range misfits {
		if region.Fits(c) {
			t.Errorf("%+v fits", c)
		}
	}
}

func TestFitsByEachField(t *testing.T) {
	for n := -3; n <= 300; n++ {
		if got, want := region.Fits(api.Conf{Kind: n, Procs: 16, Cap: 256}), n >= 1 && n <= 5; got != want {
			t.Errorf("Kind %d: %v", n, got)
		}
		if got, want := region.Fits(api.Conf{Kind: 5, Procs: n, Cap: 256}), n >= 1 && n <= 16; got != want {
			t.Errorf("Procs %d: %v", n, got)
		}
		if got, want := region.Fits(api.Conf{Kind: 1, Procs: 16, Cap: n}), n >= 1 && n <= 256; got != want {
			t.Errorf("Cap %d: %v", n, got)
		}
	}
}

// D2

// sizes is what the four functions of D2 tell.
type sizes struct{ home, log, size, bound int }

func sizesOf(c api.Conf) sizes {
	return sizes{region.Home(c), region.LogSize(c), region.Size(c), region.Bound(c)}
}

func TestSizesAtTheEnds(t *testing.T) {
	for _, x := range []struct {
		c    api.Conf
		want sizes
	}{
		{api.Conf{Kind: api.Register, Procs: 1, Cap: 1}, sizes{1, 7, 14, 276}},
		{api.Conf{Kind: api.Register, Procs: 1, Cap: 256}, sizes{1, 7, 14, 276}},
		{api.Conf{Kind: api.Register, Procs: 16, Cap: 1}, sizes{1, 67, 1154, 2076}},
		{api.Conf{Kind: api.Register, Procs: 16, Cap: 256}, sizes{1, 67, 1154, 2076}},
		{api.Conf{Kind: api.Set, Procs: 1, Cap: 1}, sizes{3, 11, 20, 396}},
		{api.Conf{Kind: api.Set, Procs: 1, Cap: 256}, sizes{513, 1031, 1550, 30996}},
		{api.Conf{Kind: api.Set, Procs: 16, Cap: 1}, sizes{3, 71, 1220, 2196}},
		{api.Conf{Kind: api.Set, Procs: 16, Cap: 256}, sizes{513, 1091, 18050, 32796}},
		{api.Conf{Kind: api.Dict, Procs: 1, Cap: 1}, sizes{5, 15, 26, 516}},
		{api.Conf{Kind: api.Dict, Procs: 1, Cap: 256}, sizes{1025, 2055, 3086, 61716}},
		{api.Conf{Kind: api.Dict, Procs: 16, Cap: 1}, sizes{5, 75, 1286, 2316}},
		{api.Conf{Kind: api.Dict, Procs: 16, Cap: 256}, sizes{1025, 2115, 34946, 63516}},
		{api.Conf{Kind: api.Order, Procs: 1, Cap: 1}, sizes{6, 17, 29, 576}},
		{api.Conf{Kind: api.Order, Procs: 1, Cap: 256}, sizes{1026, 2057, 3089, 61776}},
		{api.Conf{Kind: api.Order, Procs: 16, Cap: 1}, sizes{6, 77, 1319, 2376}},
		{api.Conf{Kind: api.Order, Procs: 16, Cap: 256}, sizes{1026, 2117, 34979, 63576}},
		{api.Conf{Kind: api.Ballot, Procs: 1, Cap: 1}, sizes{10, 25, 41, 816}},
		{api.Conf{Kind: api.Ballot, Procs: 1, Cap: 256}, sizes{265, 535, 806, 16116}},
		{api.Conf{Kind: api.Ballot, Procs: 16, Cap: 1}, sizes{10, 85, 1451, 2616}},
		{api.Conf{Kind: api.Ballot, Procs: 16, Cap: 256}, sizes{265, 595, 9866, 17916}},
	} {
		if got := sizesOf(x.c); got != x.want {
			t.Errorf("%+v: %+v, not %+v", x.c, got, x.want)
		}
	}
}

// formulas are D2's, as it writes them.
func formulas(c api.Conf) sizes {
	n, procs := c.Cap, c.Procs
	home := []int{0, 1, 1 + 2*n, 1 + 4*n, 2 + 4*n, 1 + n + 8}[c.Kind]
	log := 1 + 2*(home+2*procs)
	return sizes{home, log, 1 + procs*(5+log) + home, 10*(6*(home+2*procs)+8) + 16}
}

func TestSizesByTheFormulas(t *testing.T) {
	for c := range everyFit {
		if got, want := sizesOf(c), formulas(c); got != want {
			t.Fatalf("%+v: %+v, not %+v", c, got, want)
		}
	}
}

func TestNoSizes(t *testing.T) {
	for _, c := range misfits {
		if got := sizesOf(c); got != (sizes{}) {
			t.Errorf("%+v, which does not fit: %+v", c, got)
		}
	}
}

// D3

func TestAtOfASmallMemory(t *testing.T) {
	// The head at 0; asks from 1, 4 and 7; answers from 10, 12 and 14; logs of 31 cells from 16, 47 and 78; home from 109.
	c := api.Conf{Kind: api.Dict, Procs: 3, Cap: 2}
	for part, begins := range [][]int{{0, 0, 0}, {1, 4, 7}, {10, 12, 14}, {16, 47, 78}, {109, 109, 109}} {
		for p, want := range begins {
			if at, no := region.At(c, part, p); at != want || no != api.OK {
				t.Errorf("At(%+v, %d, %d): %d, error %d, not %d", c, part, p, at, no, want)
			}
		}
	}
}

func TestAtOfARegister(t *testing.T) {
	c := api.Conf{Kind: api.Register, Procs: 1, Cap: 1}
	for part, want := range []int{0, 1, 4, 6, 13} {
		if at, no := region.At(c, part, 0); at != want || no != api.OK {
			t.Errorf("At(%+v, %d, 0): %d, error %d, not %d", c, part, at, no, want)
		}
	}
}

func TestAtOfTheFirstAndTheLastProcess(t *testing.T) {
	for c := range everyFit {
		f := formulas(c)
		n := c.Procs
		asks, answers, logs := 1, 1+3*n, 1+5*n
		home := logs + n*f.log
		first := []int{0, asks, answers, logs, home}
		last := []int{0, answers - 3, logs - 2, home - f.log, home}
		for part := range 5 {
			if at, no := region.At(c, part, 0); at != first[part] || no != api.OK {
				t.Fatalf("At(%+v, %d, 0): %d, error %d, not %d", c, part, at, no, first[part])
			}
			if at, no := region.At(c, part, n-1); at != last[part] || no != api.OK {
				t.Fatalf("At(%+v, %d, %d): %d, error %d, not %d", c, part, n-1, at, no, last[part])
			}
		}
		if home+f.home != f.size {
			t.Fatalf("%+v: home ends at %d, and there are %d cells", c, home+f.home, f.size)
		}
	}
}

// wrongParts are no parts; NoPart is one of them.
var wrongParts = []int{-1, -5, math.MinInt, api.NoPart, 6, 1 << 32, math.MaxInt}

func refused(t *testing.T, c api.Conf, part, p int, want api.Errno) {
	t.Helper()
	if at, no := region.At(c, part, p); at != 0 || no != want {
		t.Errorf("At(%+v, %d, %d): %d, error %d, not error %d alone", c, part, p, at, no, want)
	}
}

func TestAtWhereNothingFits(t *testing.T) {
	for _, c := range misfits {
		for _, part := range append([]int{0, 1, 2, 3, 4}, wrongParts...) {
			for _, p := range []int{0, 1, 15, 16, -1, math.MinInt, math.MaxInt} {
				refused(t, c, part, p, api.ErrConfig)
			}
		}
	}
}

func TestAtOfNoPart(t *testing.T) {
	for c := range someFits {
		for _, part := range wrongParts {
			for _, p := range []int{0, c.Procs - 1, c.Procs, -1, math.MaxInt} {
				refused(t, c, part, p, api.ErrArg)
			}
		}
	}
}

func TestAtOfNoProcess(t *testing.T) {
	for c := range someFits {
		for part := range 5 {
			for _, p := range []int{-1, -16, math.MinInt, c.Procs, c.Procs + 1, 17, 1 << 32, math.MaxInt} {
				refused(t, c, part, p, api.ErrArg)
			}
		}
	}
}

// D4

// place is what Where tells.
type place struct{ part, p, far int }

func where(c api.Conf, at int) place {
	part, p, far := region.Where(c, at)
	return place{part, p, far}
}

var nowhere = place{api.NoPart, 0, 0}

func TestWhereInARegister(t *testing.T) {
	c := api.Conf{Kind: api.Register, Procs: 1, Cap: 9}
	want := []place{
		{0, 0, 0},
		{1, 0, 0}, {1, 0, 1}, {1, 0, 2},
		{2, 0, 0}, {2, 0, 1},
		{3, 0, 0}, {3, 0, 1}, {3, 0, 2}, {3, 0, 3}, {3, 0, 4}, {3, 0, 5}, {3, 0, 6},
		{4, 0, 0},
	}
	for at, w := range want {
		if got := where(c, at); got != w {
			t.Errorf("Where(%+v, %d): %v, not %v", c, at, got, w)
		}
	}
	if got := where(c, len(want)); got != nowhere {
		t.Errorf("Where(%+v, %d): %v", c, len(want), got)
	}
}

// laid is each place of memory, in order, as D3 lays it.
func laid(c api.Conf) []place {
	f := formulas(c)
	var out []place
	lay := func(part, owners, each int) {
		for p := range owners {
			for far := range each {
				out = append(out, place{part, p, far})
			}
		}
	}
	lay(api.HeadPart, 1, 1)
	lay(api.AskPart, c.Procs, 3)
	lay(api.AnswerPart, c.Procs, 2)
	lay(api.LogPart, c.Procs, f.log)
	lay(api.HomePart, 1, f.home)
	return out
}

func TestWhereOfEachPlace(t *testing.T) {
	for c := range someFits {
		all := laid(c)
		for at, want := range all {
			if got := where(c, at); got != want {
				t.Fatalf("Where(%+v, %d): %v, not %v", c, at, got, want)
			}
		}
		for _, at := range []int{-1, -2, -len(all), math.MinInt, math.MinInt + 1, len(all), len(all) + 1, 1 << 20, 1 << 32, 1 << 62, math.MaxInt} {
			if got := where(c, at); got != nowhere {
				t.Fatalf("Where(%+v, %d): %v, but there are %d places", c, at, got, len(all))
			}
		}
	}
}

func TestWhereNothingFits(t *testing.T) {
	for _, c := range misfits {
		for _, at := range []int{0, 1, 5, 13, 100, -1, math.MinInt, math.MaxInt} {
			if got := where(c, at); got != nowhere {
				t.Errorf("Where(%+v, %d): %v", c, at, got)
			}
		}
	}
}

// D5

func TestWhereUndoesAt(t *testing.T) {
	for c := range everyFit {
		for part := range 5 {
			for p := range c.Procs {
				at, no := region.At(c, part, p)
				want := place{part, p, 0}
				if part == api.HeadPart || part == api.HomePart {
					want.p = 0
				}
				if got := where(c, at); no != api.OK || got != want {
					t.Fatalf("Where(%+v, %d): %v, not %v (error %d)", c, at, got, want, no)
				}
			}
		}
	}
}

func TestAtUndoesWhere(t *testing.T) {
	for c := range someFits {
		seen := map[place]int{}
		for at := range region.Size(c) {
			w := where(c, at)
			if was, twice := seen[w]; twice {
				t.Fatalf("%+v: %v is at %d and at %d", c, w, was, at)
			}
			seen[w] = at
			if begin, no := region.At(c, w.part, w.p); no != api.OK || begin+w.far != at {
				t.Fatalf("At(%+v, %d, %d): %d, error %d, and %d behind it is not %d", c, w.part, w.p, begin, no, w.far, at)
			}
		}
		if len(seen) != len(laid(c)) {
			t.Fatalf("%+v: %d places, not %d", c, len(seen), len(laid(c)))
		}
	}
}

func TestEachPartHasItsCells(t *testing.T) {
	for c := range someFits {
		f := formulas(c)
		many := map[[2]int]int{}
		for at := range region.Size(c) {
			w := where(c, at)
			many[[2]int{w.part, w.p}]++
		}
		for part, want := range []int{1, 3, 2, f.log, f.home} {
			for p := range c.Procs {
				if p > 0 && (part == api.HeadPart || part == api.HomePart) {
					want = 0
				}
				if got := many[[2]int{part, p}]; got != want {
					t.Fatalf("%+v: part %d of %d has %d cells, not %d", c, part, p, got, want)
				}
			}
		}
	}
}

// R4

func TestTheSameForTheSame(t *testing.T) {
	c := api.Conf{Kind: api.Ballot, Procs: 2, Cap: 3}
	was := laid(c)
	for range 3 {
		for at := len(was) - 1; at >= 0; at-- {
			if got := where(c, at); got != was[at] {
				t.Errorf("Where(%+v, %d): %v, not %v", c, at, got, was[at])
			}
		}
		if sizesOf(c) != formulas(c) {
			t.Errorf("%+v: %+v", c, sizesOf(c))
		}
	}
}

package diff_test

import (
	"math"
	"slices"
	"testing"

	"whitewash/api"
	"whitewash/diff"
)

type (
	words  = []uint64
	writes = []api.Write
)

func put(at int, w uint64) api.Write { return api.Write{At: at, W: w} }

const most = 1 << 20

// wrongBases are no places at which words may begin.
var wrongBases = []int{-1, -2, -most, math.MinInt, most + 1, most + 2, 1 << 32, math.MaxInt}

// chance tells numbers below a bound, the same ones each time.
func chance(seed uint64) func(bound int) int {
	return func(bound int) int {
		seed ^= seed << 13
		seed ^= seed >> 7
		seed ^= seed << 17
		return int((seed >> 1) % uint64(bound))
	}
}

func of(t *testing.T, a, b words, base int) writes {
	t.Helper()
	l, no := diff.Of(a, b, base)
	if no != api.OK {
		t.Fatalf("Of(%v, %v, %d): error %d", a, b, base, no)
	}
	return l
}

func patch(t *testing.T, a words, base int, l ...api.Write) words {
	t.Helper()
	b, no := diff.Patch(a, base, l...)
	if no != api.OK {
		t.Fatalf("Patch(%v, %d, %v): error %d", a, base, l, no)
	}
	return b
}

// E1: Of

func TestOf(t *testing.T) {
	for _, x := range []struct {
		name string
		a, b words
		base int
		want writes
	}{
		{"none, nil", nil, nil, 3, nil},
		{"none", words{}, nil, 3, nil},
		{"one, alike", words{4}, words{4}, 0, nil},
		{"alike", words{5, 6, 7}, words{5, 6, 7}, 10, nil},
		{"all 0", words{0, 0, 0}, words{0, 0, 0}, 10, nil},
		{"the first", words{5, 6, 7}, words{8, 6, 7}, 10, writes{put(10, 8)}},
		{"the middle", words{5, 6, 7}, words{5, 8, 7}, 10, writes{put(11, 8)}},
		{"the last", words{5, 6, 7}, words{5, 6, 8}, 10, writes{put(12, 8)}},
		{"the document's", words{5, 6, 7}, words{5, 8, 9}, 10, writes{put(11, 8), put(12, 9)}},
		{"both ends", words{5, 6, 7}, words{7, 6, 5}, 10, writes{put(10, 7), put(12, 5)}},
		{"all", words{5, 6, 7}, words{7, 5, 6}, 10, writes{put(10, 7), put(11, 5), put(12, 6)}},
		{"all, by one word", words{1, 2, 3}, words{4, 4, 4}, 10, writes{put(10, 4), put(11, 4), put(12, 4)}},
		{"to 0", words{5, 6}, words{0, 0}, 10, writes{put(10, 0), put(11, 0)}},
		{"from 0", words{0, 0}, words{5, 0}, 10, writes{put(10, 5)}},
		{"the highest bit", words{1}, words{1<<63 + 1}, 1, writes{put(1, 1<<63+1)}},
		{"the lowest bit", words{1<<64 - 1}, words{1<<64 - 2}, 1, writes{put(1, 1<<64-2)}},
		{"words, not floats", words{0, api.NaN}, words{1 << 63, api.NaN}, 1, writes{put(1, 1<<63)}},
		{"the least base", words{1, 2}, words{3, 4}, 0, writes{put(0, 3), put(1, 4)}},
		{"the greatest base", words{1, 2}, words{3, 4}, most, writes{put(most, 3), put(most+1, 4)}},
	} {
		got, no := diff.Of(x.a, x.b, x.base)
		if !slices.Equal(got, x.want) || no != api.OK {
			t.Errorf("%s: Of(%v, %v, %d): %v, error %d, not %v", x.name, x.a, x.b, x.base, got, no, x.want)
		}
	}
}

func TestOfManyWords(t *testing.T) {
	a, b := make(words, 3000), make(words, 3000)
	var want writes
	for i := range a {
		a[i], b[i] = uint64(i), uint64(i)
		if i%7 == 3 {
			b[i] = uint64(i) + 1<<40
			want = append(want, put(500+i, b[i]))
		}
	}
	if got := of(t, a, b, 500); !slices.Equal(got, want) {
		t.Errorf("%d writes, not %d", len(got), len(want))
	}
}

func ofRefused(t *testing.T, a, b words, base int) {
	t.Helper()
	if l, no := diff.Of(a, b, base); len(l) != 0 || no != api.ErrArg {
		t.Errorf("Of(%v, %v, %d): %v, error %d, not ErrArg alone", a, b, base, l, no)
	}
}

func TestOfUnlikeLengths(t *testing.T) {
	for _, x := range [][2]words{
		{nil, {0}},
		{{0}, nil},
		{{1}, {1, 2}},
		{{1, 2}, {1}},
		{{1, 2, 3}, {4, 5}},
		{{4, 5}, {1, 2, 3}},
	} {
		for _, base := range []int{0, 7, most, -1, most + 1} {
			ofRefused(t, x[0], x[1], base)
		}
	}
}

// The words behind a's length are b's last ones: they don't count.
func TestOfLengthNotRoom(t *testing.T) {
	room := words{1, 2, 3}
	ofRefused(t, room[:2], words{1, 2, 3}, 0)
	ofRefused(t, words{1, 2, 3}, room[:2], 0)
}

func TestOfWrongBases(t *testing.T) {
	for _, base := range wrongBases {
		ofRefused(t, nil, nil, base)
		ofRefused(t, words{1, 2}, words{1, 2}, base)
		ofRefused(t, words{1, 2}, words{3, 4}, base)
	}
}

// E1: Patch

func TestPatch(t *testing.T) {
	for _, x := range []struct {
		name string
		a    words
		base int
		l    writes
		want words
	}{
		{"none", nil, 0, nil, nil},
		{"none, far on", words{}, most, nil, nil},
		{"no writes", words{5, 6, 7}, 10, nil, words{5, 6, 7}},
		{"the first", words{5, 6, 7}, 10, writes{put(10, 8)}, words{8, 6, 7}},
		{"the middle", words{5, 6, 7}, 10, writes{put(11, 8)}, words{5, 8, 7}},
		{"the last", words{5, 6, 7}, 10, writes{put(12, 8)}, words{5, 6, 8}},
		{"all", words{5, 6, 7}, 10, writes{put(10, 1), put(11, 2), put(12, 3)}, words{1, 2, 3}},
		{"falling", words{5, 6, 7}, 10, writes{put(12, 3), put(11, 2), put(10, 1)}, words{1, 2, 3}},
		{"what is there", words{5, 6, 7}, 10, writes{put(11, 6)}, words{5, 6, 7}},
		{"0", words{5, 6, 7}, 10, writes{put(11, 0)}, words{5, 0, 7}},
		{"twice", words{5, 6, 7}, 10, writes{put(11, 8), put(11, 9)}, words{5, 9, 7}},
		{"twice, the less later", words{5, 6, 7}, 10, writes{put(11, 9), put(11, 8)}, words{5, 8, 7}},
		{"twice, and back", words{5, 6, 7}, 10, writes{put(11, 9), put(11, 6)}, words{5, 6, 7}},
		{"twice, others between", words{5, 6, 7}, 10, writes{put(12, 9), put(10, 1), put(12, 2)}, words{1, 6, 2}},
		{"thrice", words{5, 6, 7}, 10, writes{put(10, 1), put(10, 2), put(12, 9), put(10, 3)}, words{3, 6, 9}},
		{"the greatest word", words{5}, 10, writes{put(10, 1<<64-1)}, words{1<<64 - 1}},
		{"the least base", words{5, 6}, 0, writes{put(0, 1), put(1, 2)}, words{1, 2}},
		{"the greatest base", words{5, 6}, most, writes{put(most+1, 2), put(most, 1)}, words{1, 2}},
	} {
		got, no := diff.Patch(x.a, x.base, x.l...)
		if !slices.Equal(got, x.want) || no != api.OK {
			t.Errorf("%s: Patch(%v, %d, %v): %v, error %d, not %v", x.name, x.a, x.base, x.l, got, no, x.want)
		}
	}
}

func patchRefused(t *testing.T, a words, base int, l ...api.Write) {
	t.Helper()
	if b, no := diff.Patch(a, base, l...); len(b) != 0 || no != api.ErrArg {
		t.Errorf("Patch(%v, %d, %v): %v, error %d, not ErrArg alone", a, base, l, b, no)
	}
}

func TestPatchWrongBases(t *testing.T) {
	for _, base := range wrongBases {
		patchRefused(t, nil, base)
		patchRefused(t, words{5, 6, 7}, base)
		patchRefused(t, words{5, 6, 7}, base, put(base, 1))
		patchRefused(t, words{5, 6, 7}, base, put(0, 1))
	}
}

func TestPatchNoPlaces(t *testing.T) {
	a := words{5, 6, 7}
	for _, base := range []int{0, 1, 10, most - 1, most} {
		good := put(base+1, 1)
		for _, at := range []int{base - 1, base - 2, base + 3, base + 4, -1, math.MinInt, math.MinInt + base, math.MinInt + base + 1, math.MaxInt} {
			bad := put(at, 9)
			patchRefused(t, a, base, bad)
			patchRefused(t, a, base, good, bad)
			patchRefused(t, a, base, bad, good)
			patchRefused(t, a, base, good, bad, good)
		}
	}
}

// A place that is one of a without base, but none less base.
func TestPatchPlacesCountFromBase(t *testing.T) {
	for at := range 3 {
		patchRefused(t, words{5, 6, 7}, 3, put(at, 9))
	}
}

func TestPatchOfNoWords(t *testing.T) {
	for _, base := range []int{0, 1, most} {
		for _, at := range []int{base - 1, base, base + 1} {
			patchRefused(t, nil, base, api.Write{At: at})
			patchRefused(t, words{}, base, api.Write{At: at})
		}
	}
}

// There is room behind a's length, but no place.
func TestPatchLengthNotRoom(t *testing.T) {
	room := words{5, 6, 7, 8}
	patchRefused(t, room[:2], 10, put(12, 9))
	patchRefused(t, room[:0], 10, put(10, 9))
	if !slices.Equal(room, words{5, 6, 7, 8}) {
		t.Errorf("the words have become %v", room)
	}
}

// E2: Then

func TestThen(t *testing.T) {
	for _, x := range []struct {
		name       string
		l, m, want writes
	}{
		{"none", nil, nil, nil},
		{"none, empty", writes{}, writes{}, nil},
		{"l alone", writes{put(1, 2), put(3, 4)}, nil, writes{put(1, 2), put(3, 4)}},
		{"l alone, falling", writes{put(9, 1), put(5, 2), put(1, 3)}, nil, writes{put(1, 3), put(5, 2), put(9, 1)}},
		{"l alone, twice", writes{put(3, 1), put(1, 2), put(3, 4)}, nil, writes{put(1, 2), put(3, 4)}},
		{"l alone, the less later", writes{put(3, 4), put(3, 1)}, nil, writes{put(3, 1)}},
		{"m alone", nil, writes{put(1, 2), put(3, 4)}, writes{put(1, 2), put(3, 4)}},
		{"m alone, falling", nil, writes{put(9, 1), put(5, 2), put(1, 3)}, writes{put(1, 3), put(5, 2), put(9, 1)}},
		{"m alone, twice", nil, writes{put(3, 1), put(1, 2), put(3, 4)}, writes{put(1, 2), put(3, 4)}},
		{"l ahead", writes{put(1, 5), put(2, 6)}, writes{put(3, 7), put(4, 8)}, writes{put(1, 5), put(2, 6), put(3, 7), put(4, 8)}},
		{"l's places behind", writes{put(3, 7), put(4, 8)}, writes{put(1, 5), put(2, 6)}, writes{put(1, 5), put(2, 6), put(3, 7), put(4, 8)}},
		{"by turns", writes{put(1, 5), put(3, 6)}, writes{put(2, 7), put(4, 8)}, writes{put(1, 5), put(2, 7), put(3, 6), put(4, 8)}},
		{"both", writes{put(1, 5), put(2, 6)}, writes{put(2, 9), put(3, 7)}, writes{put(1, 5), put(2, 9), put(3, 7)}},
		{"both, the less later", writes{put(2, 9)}, writes{put(2, 6)}, writes{put(2, 6)}},
		{"both, all", writes{put(1, 1), put(2, 2)}, writes{put(2, 4), put(1, 3)}, writes{put(1, 3), put(2, 4)}},
		{"twice in l, and in m", writes{put(2, 1), put(2, 2)}, writes{put(2, 3)}, writes{put(2, 3)}},
		{"in l, and twice in m", writes{put(2, 3)}, writes{put(2, 2), put(2, 1)}, writes{put(2, 1)}},
		{"twice in both", writes{put(2, 1), put(5, 5), put(2, 2)}, writes{put(2, 3), put(4, 4), put(2, 0)}, writes{put(2, 0), put(4, 4), put(5, 5)}},
		{"0 counts", writes{put(2, 1)}, writes{put(2, 0)}, writes{put(2, 0)}},
		{"the same", writes{put(2, 1)}, writes{put(2, 1)}, writes{put(2, 1)}},
		{"places below 0, and far on", writes{put(math.MaxInt, 1), put(0, 2), put(-1, 3)}, writes{put(math.MinInt, 4), put(most, 5)}, writes{put(math.MinInt, 4), put(-1, 3), put(0, 2), put(most, 5), put(math.MaxInt, 1)}},
	} {
		if got := diff.Then(x.l, x.m...); !slices.Equal(got, x.want) {
			t.Errorf("%s: Then(%v, %v): %v, not %v", x.name, x.l, x.m, got, x.want)
		}
	}
}

// lastOf is the last write of a place, told from the end on.
func lastOf(all writes, at int) (api.Write, bool) {
	for _, w := range slices.Backward(all) {
		if w.At == at {
			return w, true
		}
	}
	return api.Write{}, false
}

func someWrites(below func(int) int, places int) writes {
	var l writes
	for range below(2 * places) {
		l = append(l, put(below(places), uint64(below(3))))
	}
	return l
}

func TestThenByEachPlace(t *testing.T) {
	below := chance(5)
	for range 2000 {
		l, m := someWrites(below, 12), someWrites(below, 12)
		var want writes
		for at := range 12 {
			if w, is := lastOf(slices.Concat(l, m), at); is {
				want = append(want, w)
			}
		}
		if got := diff.Then(l, m...); !slices.Equal(got, want) {
			t.Fatalf("Then(%v, %v): %v, not %v", l, m, got, want)
		}
	}
}

// E2: Same and Zero

func TestSame(t *testing.T) {
	long := make(words, 1000)
	longer := make(words, 1001)
	last := slices.Clone(long)
	last[999] = 1
	room := words{1, 2, 3}
	for i, x := range []struct {
		a, b words
		want bool
	}{
		{nil, nil, true},
		{nil, words{}, true},
		{words{}, words{}, true},
		{words{5}, words{5}, true},
		{words{5, 6, 7}, words{5, 6, 7}, true},
		{words{api.NaN}, words{api.NaN}, true},
		{words{0}, words{1 << 63}, false},
		{words{5, 6, 7}, words{4, 6, 7}, false},
		{words{5, 6, 7}, words{5, 4, 7}, false},
		{words{5, 6, 7}, words{5, 6, 4}, false},
		{words{5, 6, 7}, words{7, 6, 5}, false},
		{words{5, 6}, words{6, 5}, false},
		{words{1}, words{1 + 1<<32}, false},
		{nil, words{0}, false},
		{words{5, 6}, words{5, 6, 0}, false},
		{words{5, 6}, words{5, 6, 7}, false},
		{words{6, 7}, words{5, 6, 7}, false},
		{words{5}, words{6, 7}, false},
		{room[:2], room, false},
		{room[:2], room[1:], false},
		{room, room, true},
		{long, slices.Clone(long), true},
		{long, longer, false},
		{long, last, false},
	} {
		if diff.Same(x.a, x.b) != x.want || diff.Same(x.b, x.a) != x.want {
			t.Errorf("%d: Same(%v, %v) is not %v both ways", i, x.a, x.b, x.want)
		}
	}
}

func TestZero(t *testing.T) {
	for _, none := range []words{nil, {}, words{7}[:0]} {
		if !diff.Zero(none) {
			t.Errorf("Zero(%v) is false", none)
		}
	}
	for _, n := range []int{1, 2, 3, 100} {
		a := make(words, n)
		if !diff.Zero(a) {
			t.Errorf("of %d words that are all 0: false", n)
		}
		for i := range a {
			for _, w := range []uint64{1, 1 << 32, 1 << 63, 1<<64 - 1, api.NaN} {
				a[i] = w
				if diff.Zero(a) {
					t.Errorf("of %d words, of which %d is %d: true", n, i, w)
				}
			}
			a[i] = 0
		}
	}
}

func TestZeroLengthNotRoom(t *testing.T) {
	if !diff.Zero(words{0, 0, 7}[:2]) {
		t.Error("what stands behind the length counts")
	}
}

// E3

// everyWords goes through all words of at most three places, each 0, 1 or 2.
func everyWords(yield func(words) bool) {
	for n, many := range []int{1, 3, 9, 27} {
		for code := range many {
			a := make(words, n)
			for i := range a {
				a[i] = uint64(code % 3)
				code /= 3
			}
			if !yield(a) {
				return
			}
		}
	}
}

// pairs goes through pairs of words of one length: all small ones, and some longer ones.
func pairs(yield func(a, b words) bool) {
	for a := range everyWords {
		for b := range everyWords {
			if len(a) == len(b) && !yield(a, b) {
				return
			}
		}
	}
	below := chance(7)
	for range 200 {
		n := below(60)
		a, b := make(words, n), make(words, n)
		for i := range a {
			a[i] = uint64(below(1<<62)) << below(3)
			b[i] = a[i] ^ uint64(below(2))<<below(64)
		}
		if !yield(a, b) {
			return
		}
	}
}

var bases = []int{0, 1, 10, most}

func TestPatchByOf(t *testing.T) {
	for a, b := range pairs {
		for _, base := range bases {
			l := of(t, a, b, base)
			once := patch(t, a, base, l...)
			if !slices.Equal(once, b) {
				t.Fatalf("%v to %v from %d on, by %v: %v", a, b, base, l, once)
			}
			if twice := patch(t, once, base, l...); !slices.Equal(twice, b) {
				t.Fatalf("%v to %v from %d on, by %v twice: %v", a, b, base, l, twice)
			}
			if again := patch(t, a, base, slices.Concat(l, l)...); !slices.Equal(again, b) {
				t.Fatalf("%v to %v from %d on, by %v twice at once: %v", a, b, base, l, again)
			}
			if diff.Same(a, b) != (len(l) == 0) {
				t.Fatalf("%v and %v: Same tells %v, and there are %d writes", a, b, diff.Same(a, b), len(l))
			}
		}
	}
}

func TestNoWriteMayBeLeftOut(t *testing.T) {
	for a, b := range pairs {
		for _, base := range bases {
			l := of(t, a, b, base)
			for i := range l {
				rest := slices.Delete(slices.Clone(l), i, i+1)
				if got := patch(t, a, base, rest...); slices.Equal(got, b) {
					t.Fatalf("%v to %v from %d on, by %v: %v may be left out", a, b, base, l, l[i])
				}
			}
		}
	}
}

func TestPatchByThen(t *testing.T) {
	below := chance(11)
	for range 2000 {
		n := 1 + below(12)
		base := bases[below(len(bases))]
		a := make(words, n)
		for i := range a {
			a[i] = uint64(below(5))
		}
		l, m := someWrites(below, n), someWrites(below, n)
		for _, list := range []writes{l, m} {
			for i := range list {
				list[i].At += base
			}
		}
		want := patch(t, patch(t, a, base, l...), base, m...)
		if got := patch(t, a, base, diff.Then(l, m...)...); !slices.Equal(got, want) {
			t.Fatalf("%v from %d on, by %v then %v: %v, not %v", a, base, l, m, got, want)
		}
	}
}

// Where the first ones or the others may not be, what Then makes of them may not be either.
func TestPatchByThenRefused(t *testing.T) {
	good, bad := writes{put(11, 1)}, writes{put(13, 2)}
	patchRefused(t, words{5, 6, 7}, 10, diff.Then(good, bad...)...)
	patchRefused(t, words{5, 6, 7}, 10, diff.Then(bad, good...)...)
}

func TestFromOneToAnotherToAThird(t *testing.T) {
	below := chance(13)
	for a, b := range pairs {
		c := slices.Clone(a)
		for i := range c {
			c[i] += uint64(below(2))
		}
		l := diff.Then(of(t, a, b, 4), of(t, b, c, 4)...)
		if got := patch(t, a, 4, l...); !slices.Equal(got, c) {
			t.Fatalf("%v to %v to %v, by %v: %v", a, b, c, l, got)
		}
	}
}

// R3

// kept is a list with room behind its length, and what the whole was.
type kept[T comparable] struct{ room, was []T }

func keep[T comparable](list ...T) kept[T] { return kept[T]{list, slices.Clone(list)} }

// handed is the list without its last element, which stands behind its length.
func (k kept[T]) handed() []T { return k.room[:len(k.room)-1] }

func (k kept[T]) unchanged(t *testing.T, what string) {
	t.Helper()
	if !slices.Equal(k.room, k.was) {
		t.Errorf("%s: %v has become %v", what, k.was, k.room)
	}
}

// spoil writes into all of a list, spare room too.
func spoil[T any](list []T, w T) {
	list = list[:cap(list)]
	for i := range list {
		list[i] = w
	}
}

func TestWordsHandedInAreNotWrittenInto(t *testing.T) {
	a, b := keep[uint64](5, 6, 7, 70), keep[uint64](5, 8, 9, 90)
	l := keep(put(12, 1), put(10, 2), put(12, 3), put(10, 4))
	spoil(of(t, a.handed(), b.handed(), 10), put(99, 99))
	spoil(patch(t, a.handed(), 10, l.handed()...), 99)
	spoil(patch(t, a.handed(), 10), 99)
	spoil(patch(t, a.handed()[:0], 10), 99)
	patchRefused(t, a.handed(), 10, put(10, 1), put(13, 1))
	ofRefused(t, a.handed(), b.handed()[:2], 10)
	diff.Same(a.handed(), b.handed())
	diff.Zero(a.handed())
	a.unchanged(t, "a")
	b.unchanged(t, "b")
	l.unchanged(t, "l")
}

func TestWritesHandedInAreNotWrittenInto(t *testing.T) {
	l := keep(put(3, 1), put(1, 2), put(3, 4), put(7, 7))
	m := keep(put(2, 9), put(1, 8), put(0, 8))
	spoil(diff.Then(l.handed(), m.handed()...), put(99, 99))
	spoil(diff.Then(l.handed()), put(99, 99))
	spoil(diff.Then(nil, m.handed()...), put(99, 99))
	spoil(diff.Then(l.handed()[:1], m.handed()[:0]...), put(99, 99))
	l.unchanged(t, "l")
	m.unchanged(t, "m")
}

func TestAnswersAreNotKept(t *testing.T) {
	a, b := words{5, 6, 7}, words{5, 8, 9}
	l := of(t, a, b, 10)
	p := patch(t, a, 10, l...)
	n := diff.Then(l, put(11, 3))
	spoil(of(t, a, b, 10), api.Write{})
	spoil(patch(t, a, 10, l...), 99)
	spoil(diff.Then(l, put(11, 3)), api.Write{})
	a[0], b[1] = 77, 77
	if want := (writes{put(11, 8), put(12, 9)}); !slices.Equal(l, want) {
		t.Errorf("Of has become %v", l)
	}
	if !slices.Equal(p, words{5, 8, 9}) {
		t.Errorf("Patch has become %v", p)
	}
	if want := (writes{put(11, 3), put(12, 9)}); !slices.Equal(n, want) {
		t.Errorf("Then has become %v", n)
	}
}

// R4

func TestTheSameForTheSame(t *testing.T) {
	below := chance(17)
	l, m := someWrites(below, 200), someWrites(below, 200)
	was := diff.Then(l, m...)
	for range 50 {
		if got := diff.Then(l, m...); !slices.Equal(got, was) {
			t.Fatalf("%v, and then %v", was, got)
		}
	}
}

package probe_test

import (
	"math"
	"math/rand/v2"
	"slices"
	"strconv"
	"testing"

	"whitewash/api"
	"whitewash/mix"
	"whitewash/probe"
)

type (
	words   = []uint64
	record  = [2]uint64
	records = []record
)

const (
	most     = 1024
	greatest = math.MaxUint64
)

// no number of slots, and no width, that a table may have
var (
	wrongSlots  = []int{0, -1, -2, -most, math.MinInt, most + 1, most + 2, 2 * most, 1 << 32, math.MaxInt}
	wrongWidths = []int{0, -1, -2, 3, 4, most, 1 << 32, 1<<32 + 1, math.MinInt, math.MinInt + 1, math.MaxInt}
)

// keys are records without words, as a table of a width of 1 has them.
func keys(l ...uint64) records {
	var out records
	for _, k := range l {
		out = append(out, record{k})
	}
	return out
}

// crowd is so many records, unlike ones; those of a width of 1 have no words.
func crowd(n, width int) records {
	var out records
	for i := range n {
		r := record{uint64(i+1) * 0x9e3779b97f4a7c15}
		if width == 2 {
			r[1] = uint64(i*i) << 40
		}
		out = append(out, r)
	}
	return out
}

// displaced is the table of records, made in another way than by their order: whoever comes takes the place of one that it goes Before, and that one goes on.
func displaced(slots, width int, l records) words {
	t := make(words, slots*width)
	for _, r := range l {
		for at := mix.Slot(r[0], slots); r[0] != 0; at = (at + 1) % slots {
			var there record
			copy(there[:], t[at*width:][:width])
			if there[0] == 0 || mix.Before(r[0], there[0]) {
				copy(t[at*width:][:width], r[:])
				r = there
			}
		}
	}
	return t
}

// chance is the same one each time.
func chance(seed uint64) *rand.Rand { return rand.New(rand.NewPCG(seed, 1)) }

func shuffled(c *rand.Rand, l records) records {
	l = slices.Clone(l)
	c.Shuffle(len(l), func(i, j int) { l[i], l[j] = l[j], l[i] })
	return l
}

func rising(l records) records {
	l = slices.Clone(l)
	slices.SortFunc(l, func(a, b record) int {
		if a[0] < b[0] {
			return -1
		}
		return 1
	})
	return l
}

func build(t *testing.T, slots, width int, l ...record) words {
	t.Helper()
	w, no := probe.Build(slots, width, l...)
	if no != api.OK {
		t.Fatalf("Build(%d, %d, %v): error %d", slots, width, l, no)
	}
	return w
}

func put(t *testing.T, w words, width int, key, val uint64) words {
	t.Helper()
	out, no := probe.Put(w, width, key, val)
	if no != api.OK {
		t.Fatalf("Put(%v, %d, %d, %d): error %d", w, width, key, val, no)
	}
	return out
}

func del(t *testing.T, w words, width int, key uint64) words {
	t.Helper()
	out, no := probe.Del(w, width, key)
	if no != api.OK {
		t.Fatalf("Del(%v, %d, %d): error %d", w, width, key, no)
	}
	return out
}

// wrongTables are words that are no table of a width. Of 4 slots the key 5 stands in slot 0 and the key 2 in slot 2; the key 6 stands in slot 0 too, and goes Before 5.
func wrongTables() map[string]struct {
	w     words
	width int
} {
	type table = struct {
		w     words
		width int
	}
	out := map[string]table{
		"no slot":                          {nil, 1},
		"no slot, of a width of 2":         {words{}, 2},
		"half a slot":                      {make(words, 1), 2},
		"a word more than slots":           {make(words, 9), 2},
		"more slots than may be":           {make(words, most+1), 1},
		"more slots, of a width of 2":      {make(words, 2*most+2), 2},
		"more slots by far":                {make(words, 1<<20), 2},
		"one word more than may be":        {make(words, 2*most+1), 2},
		"a key behind its empty slot":      {words{0, 5, 0, 0}, 1},
		"a key ahead of its slot":          {words{2, 0, 0, 0}, 1},
		"a key at the end, not round":      {words{0, 0, 0, 5}, 1},
		"two in the other order":           {words{5, 6, 0, 0}, 1},
		"two with a slot between":          {words{6, 0, 5, 0}, 1},
		"two alike":                        {words{5, 5, 0, 0}, 1},
		"two alike in all there is":        {words{5, 5}, 1},
		"two alike with unlike words":      {words{5, 1, 5, 2, 0, 0, 0, 0}, 2},
		"a word without a key":             {words{0, 5}, 2},
		"a word without a key beside one":  {words{5, 1, 0, 1, 0, 0, 0, 0}, 2},
		"the last word without a key":      {words{5, 1, 0, 0, 0, 0, 0, 1}, 2},
		"a key in its slot's second word":  {words{0, 5, 0, 0, 0, 0, 0, 0}, 2},
		"of a width of 2, read as of 1":    {words{5, 9, 0, 0, 0, 0, 0, 0}, 1},
		"of a width of 1, read as of 2":    {words{4, 1, 2, 3}, 2},
		"full, but in another order":       {words{4, 1, 3, 2}, 1},
		"a greatest key that is elsewhere": {words{greatest, 0, 0, 0}, 1},
	}
	for _, width := range wrongWidths {
		out["a width of "+strconv.Itoa(width)] = table{make(words, 12), width}
	}
	return out
}

// G1: Build, Right

func TestBuild(t *testing.T) {
	for _, x := range []struct {
		slots, width int
		l            records
		want         words
	}{
		{1, 1, nil, words{0}},
		{1, 2, nil, words{0, 0}},
		{3, 2, nil, words{0, 0, 0, 0, 0, 0}},
		{1, 1, keys(9), words{9}},
		{1, 2, records{{9, 8}}, words{9, 8}},
		{1, 2, records{{9, 0}}, words{9, 0}},
		{4, 1, keys(5), words{5, 0, 0, 0}},
		{4, 1, keys(2), words{0, 0, 2, 0}},
		{4, 1, keys(greatest), words{0, 0, 0, greatest}},
		{4, 1, keys(9, greatest), words{9, 0, 0, greatest}}, // both belong to the last slot
		{4, 2, records{{5, greatest}, {2, 7}}, words{5, greatest, 0, 0, 2, 7, 0, 0}},
		{2, 1, keys(5, 6), words{6, 5}},
		{2, 1, keys(6, 5), words{6, 5}},
		{3, 1, keys(1, 2, 3), words{3, 2, 1}}, // round: 3 belongs to slot 2
		{3, 2, records{{1, 10}, {2, 20}, {3, 30}}, words{3, 30, 2, 20, 1, 10}},
		{4, 1, keys(1, 2, 3, 4), words{4, 1, 2, 3}},
		{8, 1, keys(5, 6, 7), words{0, 0, 0, 0, 6, 5, 7, 0}},
		{8, 1, keys(1, 2, 3, 4, 5, 6), words{3, 0, 2, 0, 6, 4, 5, 1}},
		{5, 2, records{{5, 50}, {4, 40}, {3, 30}, {2, 20}, {1, 10}}, words{2, 20, 3, 30, 4, 40, 5, 50, 1, 10}},
	} {
		got, no := probe.Build(x.slots, x.width, x.l...)
		if no != api.OK || !slices.Equal(got, x.want) {
			t.Errorf("Build(%d, %d, %v): %v, %d, not %v", x.slots, x.width, x.l, got, no, x.want)
		}
		if !probe.Right(x.want, x.width) {
			t.Errorf("Right(%v, %d): false", x.want, x.width)
		}
	}
}

func TestBuildOfManySlots(t *testing.T) {
	for _, width := range []int{1, 2} {
		for _, slots := range []int{1, 2, 3, 16, 100, 257, most - 1, most} {
			for _, n := range []int{0, 1, slots / 2, slots - 1, slots} {
				l := crowd(n, width)
				got, no := probe.Build(slots, width, l...)
				if no != api.OK || !slices.Equal(got, displaced(slots, width, l)) {
					t.Errorf("Build(%d, %d) of %d records: error %d, or laid otherwise", slots, width, n, no)
				}
				if !probe.Right(got, width) {
					t.Errorf("Right of %d slots of %d with %d records: false", slots, width, n)
				}
			}
		}
	}
}

func TestBuildRefuses(t *testing.T) {
	type refusal struct {
		slots, width int
		l            records
		want         api.Errno
	}
	list := []refusal{
		{2, 1, keys(0), api.ErrArg},
		{2, 2, records{{0, 0}}, api.ErrArg},
		{2, 2, records{{0, 5}}, api.ErrArg},
		{4, 2, records{{5, 1}, {6, 1}, {0, 1}}, api.ErrArg},
		{2, 1, keys(5, 5), api.ErrArg},
		{2, 2, records{{5, 1}, {5, 1}}, api.ErrArg},
		{2, 2, records{{5, 1}, {5, 2}}, api.ErrArg},
		{4, 2, records{{5, 1}, {6, 1}, {7, 1}, {5, 2}}, api.ErrArg},
		{2, 1, records{{5, 1}}, api.ErrArg},
		{2, 1, records{{5, 0}, {6, greatest}}, api.ErrArg},
		{1, 1, keys(5, 6), api.ErrFull},
		{1, 2, records{{5, 1}, {6, 0}}, api.ErrFull},
		{3, 1, keys(1, 2, 3, 4), api.ErrFull},
		{most, 2, crowd(most+1, 2), api.ErrFull},
		{2, 1, crowd(5000, 1), api.ErrFull},
		// What may not be is told ahead of what has no room, wherever it stands.
		{1, 1, keys(5, 5), api.ErrArg},
		{1, 1, keys(5, 6, 0), api.ErrArg},
		{1, 1, keys(5, 6, 7, 6), api.ErrArg},
		{1, 1, records{{5, 0}, {6, 0}, {7, 1}}, api.ErrArg},
		{2, 2, append(crowd(5000, 2), crowd(1, 2)...), api.ErrArg},
		{0, 1, keys(5), api.ErrArg},
	}
	for _, slots := range wrongSlots {
		list = append(list, refusal{slots, 1, nil, api.ErrArg}, refusal{slots, 2, keys(5, 6), api.ErrArg})
	}
	for _, width := range wrongWidths {
		list = append(list, refusal{1, width, nil, api.ErrArg}, refusal{4, width, keys(5), api.ErrArg}, refusal{most, width, keys(5), api.ErrArg})
	}
	for _, x := range list {
		got, no := probe.Build(x.slots, x.width, x.l...)
		if no != x.want || len(got) != 0 {
			t.Errorf("Build(%d, %d) of %d records: %d words, error %d, not %d", x.slots, x.width, len(x.l), len(got), no, x.want)
		}
	}
}

func TestWrongTablesAreNotRight(t *testing.T) {
	for name, x := range wrongTables() {
		if probe.Right(x.w, x.width) {
			t.Errorf("%s: right", name)
		}
	}
}

// choices tells each list of n words out of those.
func choices(n int, of words, tell func(words)) {
	w := make(words, n)
	var set func(i int)
	set = func(i int) {
		if i == n {
			tell(w)
			return
		}
		for _, x := range of {
			w[i] = x
			set(i + 1)
		}
	}
	set(0)
}

func text(w words) string {
	var b []byte
	for _, x := range w {
		b = append(b, byte(x))
	}
	return string(b)
}

// Of all words of a small table those are right that some records have, and no others.
func TestRightOfAllSmallTables(t *testing.T) {
	of := words{0, 1, 2, 3, 4, 5, 6, 7, 9}
	for slots := 1; slots <= 5; slots++ {
		tables := map[string]bool{}
		for choice := range 1 << (len(of) - 1) {
			var l records
			for i, k := range of[1:] {
				if choice>>i&1 == 1 {
					l = append(l, record{k})
				}
			}
			if len(l) <= slots {
				tables[text(displaced(slots, 1, l))] = true
			}
		}
		choices(slots, of, func(w words) {
			if probe.Right(w, 1) != tables[text(w)] {
				t.Errorf("Right(%v, 1): %v", w, !tables[text(w)])
			}
		})
	}
}

func TestRightOfAllSmallTablesOfTwoWords(t *testing.T) {
	of := words{0, 1, 2, 3, 5}
	for slots := 1; slots <= 3; slots++ {
		tables := map[string]bool{}
		choices(len(of)-1, append(words{greatest}, of...), func(vals words) {
			var l records
			for i, k := range of[1:] {
				if vals[i] != greatest {
					l = append(l, record{k, vals[i]})
				}
			}
			if len(l) <= slots {
				tables[text(displaced(slots, 2, l))] = true
			}
		})
		choices(2*slots, of, func(w words) {
			if probe.Right(w, 2) != tables[text(w)] {
				t.Errorf("Right(%v, 2): %v", w, !tables[text(w)])
			}
		})
	}
}

// G2: Find, List

func TestFind(t *testing.T) {
	for _, x := range []struct {
		w     words
		width int
		key   uint64
		at    int
		is    bool
	}{
		{words{0}, 1, 5, 0, false},
		{words{9}, 1, 9, 0, true},
		{words{9}, 1, 5, 0, false},
		{words{4, 1, 2, 3}, 1, 4, 0, true},
		{words{4, 1, 2, 3}, 1, 1, 1, true},
		{words{4, 1, 2, 3}, 1, 2, 2, true},
		{words{4, 1, 2, 3}, 1, 3, 3, true},
		{words{4, 1, 2, 3}, 1, 5, 0, false}, // full: each slot is looked at once
		{words{3, 2, 1}, 1, 3, 0, true},     // round: it belongs to slot 2
		{words{3, 30, 2, 20, 1, 10}, 2, 1, 2, true},
		{words{3, 30, 2, 20, 1, 10}, 2, 3, 0, true},
		{words{3, 30, 2, 20, 1, 10}, 2, 30, 0, false}, // a word is no key
		{words{5, greatest, 0, 0, 2, 7, 0, 0}, 2, 2, 2, true},
		{words{5, greatest, 0, 0, 2, 7, 0, 0}, 2, greatest, 0, false},
		{words{5, greatest, 0, 0, 2, 7, 0, 0}, 2, 6, 0, false},
		{words{9, 0, 0, greatest}, 1, greatest, 3, true},
		{words{9, 0, 0, greatest}, 1, 9, 0, true},
		{words{9, 0, 0, greatest}, 1, 0, 0, false}, // 0 is no key, though a slot has it
		{words{4, 1, 2, 3}, 1, 0, 0, false},
	} {
		at, is := probe.Find(x.w, x.width, x.key)
		if at != x.at || is != x.is {
			t.Errorf("Find(%v, %d, %d): %d, %v, not %d, %v", x.w, x.width, x.key, at, is, x.at, x.is)
		}
	}
}

func TestNothingIsFoundInWrongTables(t *testing.T) {
	for name, x := range wrongTables() {
		for _, key := range []uint64{0, 1, 2, 5, 6, greatest} {
			if at, is := probe.Find(x.w, x.width, key); at != 0 || is {
				t.Errorf("%s: Find of %d: %d, %v", name, key, at, is)
			}
		}
		if l := probe.List(x.w, x.width); len(l) != 0 {
			t.Errorf("%s: List: %v", name, l)
		}
	}
}

func TestList(t *testing.T) {
	for _, x := range []struct {
		w     words
		width int
		want  records
	}{
		{words{0}, 1, nil},
		{words{0, 0, 0, 0}, 2, nil},
		{words{9}, 1, keys(9)},
		{words{9, 0}, 2, records{{9, 0}}},
		{words{3, 0, 2, 0, 6, 4, 5, 1}, 1, keys(1, 2, 3, 4, 5, 6)},
		{words{3, 30, 2, 20, 1, 10}, 2, records{{1, 10}, {2, 20}, {3, 30}}},
		{words{5, greatest, 0, 0, 2, 7, 0, 0}, 2, records{{2, 7}, {5, greatest}}},
		{words{9, 0, 0, greatest}, 1, keys(9, greatest)},
	} {
		if got := probe.List(x.w, x.width); !slices.Equal(got, x.want) {
			t.Errorf("List(%v, %d): %v, not %v", x.w, x.width, got, x.want)
		}
	}
	for _, width := range []int{1, 2} {
		l := crowd(700, width)
		if got := probe.List(build(t, most, width, l...), width); !slices.Equal(got, rising(l)) {
			t.Errorf("List of 700 records of a width of %d: not those, rising", width)
		}
	}
}

// G3: Put, Del

func TestPutAndDel(t *testing.T) {
	for _, x := range []struct {
		w        words
		width    int
		key, val uint64
		put      words
		del      words
	}{
		{words{0}, 1, 5, 0, words{5}, words{0}},
		{words{0, 0}, 2, 5, 0, words{5, 0}, words{0, 0}},
		{words{5, 0}, 2, 5, greatest, words{5, greatest}, words{0, 0}}, // full, but the key is there
		{words{5, 7}, 2, 5, 0, words{5, 0}, words{0, 0}},
		{words{5, 7}, 2, 5, 7, words{5, 7}, words{0, 0}},
		{words{5, 0, 0, 0}, 1, 5, 0, words{5, 0, 0, 0}, words{0, 0, 0, 0}},
		{words{5, 0, 0, 0}, 1, 6, 0, words{6, 5, 0, 0}, words{5, 0, 0, 0}}, // 5 makes room
		{words{6, 0, 0, 0}, 1, 5, 0, words{6, 5, 0, 0}, words{6, 0, 0, 0}},
		{words{0, 2, 1}, 1, 3, 0, words{3, 2, 1}, words{0, 2, 1}},
		{words{3, 2, 1}, 1, 2, 0, words{3, 2, 1}, words{0, 1, 3}}, // 1 and 3 go back, 3 round
		{words{3, 2, 1}, 1, 1, 0, words{3, 2, 1}, words{0, 2, 3}},
		{words{3, 30, 2, 20, 1, 10}, 2, 2, 21, words{3, 30, 2, 21, 1, 10}, words{0, 0, 1, 10, 3, 30}},
		{words{4, 1, 2, 3}, 1, 4, 0, words{4, 1, 2, 3}, words{3, 1, 2, 0}},
		{words{0, 0, 0, 9}, 1, greatest, 0, words{9, 0, 0, greatest}, words{0, 0, 0, 9}},
	} {
		with, no := probe.Put(x.w, x.width, x.key, x.val)
		if no != api.OK || !slices.Equal(with, x.put) {
			t.Errorf("Put(%v, %d, %d, %d): %v, %d, not %v", x.w, x.width, x.key, x.val, with, no, x.put)
		}
		without, no := probe.Del(x.put, x.width, x.key)
		if no != api.OK || !slices.Equal(without, x.del) {
			t.Errorf("Del(%v, %d, %d): %v, %d, not %v", x.put, x.width, x.key, without, no, x.del)
		}
	}
}

func TestPutAndDelRefuse(t *testing.T) {
	for _, x := range []struct {
		w        words
		width    int
		key, val uint64
		put, del api.Errno
	}{
		{words{0}, 1, 0, 0, api.ErrArg, api.ErrArg},
		{words{0, 0}, 2, 0, 0, api.ErrArg, api.ErrArg},
		{words{0, 0}, 2, 0, 7, api.ErrArg, api.ErrArg},
		{words{0, 0}, 1, 5, 1, api.ErrArg, api.ErrNone},
		{words{5, 0, 0, 0}, 1, 5, 1, api.ErrArg, api.OK},
		{words{5, 0, 0, 0}, 1, 6, greatest, api.ErrArg, api.ErrNone},
		{words{5}, 1, 6, 0, api.ErrFull, api.ErrNone},
		{words{5, 1}, 2, 6, 1, api.ErrFull, api.ErrNone},
		{words{4, 1, 2, 3}, 1, 5, 0, api.ErrFull, api.ErrNone},
		{words{4, 1, 2, 3}, 1, greatest, 0, api.ErrFull, api.ErrNone},
		{words{4, 1, 2, 3}, 1, 4, 0, api.OK, api.OK},
		// What may not be is told ahead of what has no room.
		{words{4, 1, 2, 3}, 1, 0, 0, api.ErrArg, api.ErrArg},
		{words{4, 1, 2, 3}, 1, 5, 1, api.ErrArg, api.ErrNone},
		{words{5, 1}, 2, 0, 1, api.ErrArg, api.ErrArg},
	} {
		with, no := probe.Put(x.w, x.width, x.key, x.val)
		if no != x.put || no != api.OK && !slices.Equal(with, x.w) {
			t.Errorf("Put(%v, %d, %d, %d): %v, %d, not %d", x.w, x.width, x.key, x.val, with, no, x.put)
		}
		without, no := probe.Del(x.w, x.width, x.key)
		if no != x.del || no != api.OK && !slices.Equal(without, x.w) {
			t.Errorf("Del(%v, %d, %d): %v, %d, not %d", x.w, x.width, x.key, without, no, x.del)
		}
	}
}

func TestPutAndDelRefuseWrongTables(t *testing.T) {
	for name, x := range wrongTables() {
		for _, key := range []uint64{0, 1, 5, 9, greatest} {
			if w, no := probe.Put(x.w, x.width, key, 0); no != api.ErrArg || !slices.Equal(w, x.w) {
				t.Errorf("%s: Put of %d: error %d, or another table", name, key, no)
			}
			if w, no := probe.Del(x.w, x.width, key); no != api.ErrArg || !slices.Equal(w, x.w) {
				t.Errorf("%s: Del of %d: error %d, or another table", name, key, no)
			}
		}
	}
}

func TestExample1(t *testing.T) {
	five := put(t, build(t, 1, 1), 1, 5, 0)
	if w, no := probe.Put(five, 1, 6, 0); no != api.ErrFull || !slices.Equal(w, words{5}) {
		t.Errorf("Put of 6: %v, %d", w, no)
	}
	if w := del(t, five, 1, 5); !slices.Equal(w, words{0}) {
		t.Errorf("Del of 5: %v", w)
	}
}

func TestAFullTableOfAllSlots(t *testing.T) {
	for _, width := range []int{1, 2} {
		l := crowd(most+1, width)
		full, last := build(t, most, width, l[:most]...), l[most]
		if w, no := probe.Put(full, width, last[0], last[1]); no != api.ErrFull || !slices.Equal(w, full) {
			t.Errorf("a width of %d: one more: error %d", width, no)
		}
		if w := put(t, full, width, l[7][0], l[7][1]); !slices.Equal(w, full) {
			t.Errorf("a width of %d: one that is there: another table", width)
		}
		if w := del(t, full, width, l[7][0]); !slices.Equal(w, displaced(most, width, slices.Delete(slices.Clone(l[:most]), 7, 8))) {
			t.Errorf("a width of %d: one less: another table", width)
		}
	}
}

// G4: one table of the same records

func TestWhateverTheOrder(t *testing.T) {
	c := chance(7)
	for _, width := range []int{1, 2} {
		for _, slots := range []int{1, 2, 3, 5, 8, 33} {
			for n := 0; n <= slots; n++ {
				l := crowd(n, width)
				want := displaced(slots, width, l)
				for range 5 {
					now := build(t, slots, width)
					for _, r := range shuffled(c, l) {
						now = put(t, now, width, r[0], r[1])
					}
					if built := build(t, slots, width, shuffled(c, l)...); !slices.Equal(now, want) || !slices.Equal(built, want) {
						t.Errorf("%d records, %d slots of %d: %v, built %v, not %v", n, slots, width, now, built, want)
					}
				}
			}
		}
	}
}

// All orders of small keys, which crowd into the same slots.
func TestAllOrdersOfFew(t *testing.T) {
	l := records{{4, 1}, {5, 2}, {6, 3}, {7, 4}, {12, 5}}
	for _, slots := range []int{5, 6, 8} {
		want := displaced(slots, 2, l)
		var walk func(now words, rest records)
		walk = func(now words, rest records) {
			if len(rest) == 0 && !slices.Equal(now, want) {
				t.Errorf("%d slots: %v, not %v", slots, now, want)
			}
			for i, r := range rest {
				walk(put(t, now, 2, r[0], r[1]), slices.Delete(slices.Clone(rest), i, i+1))
			}
		}
		walk(build(t, slots, 2), l)
	}
}

// A long walk of puts and dels: whatever was there ahead, the table is that of the records that are there now.
func TestNoTraceOfWhatWasThere(t *testing.T) {
	for _, width := range []int{1, 2} {
		for _, slots := range []int{1, 2, 4, 7, 16, 64} {
			c := chance(uint64(1000*slots + width))
			now, there := build(t, slots, width), map[uint64]uint64{}
			for range 600 {
				key, val := uint64(1+c.IntN(slots*3/2+1)), uint64(0)
				if width == 2 {
					val = uint64(c.IntN(3))
				}
				_, is := there[key]
				var no, want api.Errno
				if c.IntN(5) < 3 {
					now, no = probe.Put(now, width, key, val)
					if !is && len(there) == slots {
						want = api.ErrFull
					} else {
						there[key] = val
					}
				} else {
					now, no = probe.Del(now, width, key)
					if !is {
						want = api.ErrNone
					}
					delete(there, key)
				}
				var l records
				for k, v := range there {
					l = append(l, record{k, v})
				}
				if no != want || !slices.Equal(now, displaced(slots, width, l)) || !probe.Right(now, width) || !slices.Equal(probe.List(now, width), rising(l)) {
					t.Fatalf("%d slots of %d, %d: error %d, not %d, or not the table of %v: %v", slots, width, key, no, want, l, now)
				}
			}
		}
	}
}

func TestPutAndTakenOutAgain(t *testing.T) {
	for _, width := range []int{1, 2} {
		for _, slots := range []int{1, 2, 3, 8, 100} {
			l := crowd(slots, width)
			for n := range slots {
				was := build(t, slots, width, l[:n]...)
				for _, r := range []record{l[n], {greatest}, {1}, {api.MaxKey}} {
					if now := del(t, put(t, was, width, r[0], r[1]), width, r[0]); !slices.Equal(now, was) {
						t.Errorf("%d of %d slots: %v put and taken out: %v, not %v", n, slots, r, now, was)
					}
				}
			}
			full := build(t, slots, width, l...)
			for _, r := range l {
				if now := put(t, del(t, full, width, r[0]), width, r[0], r[1]); !slices.Equal(now, full) {
					t.Errorf("%d slots: %v taken out and put: %v, not %v", slots, r, now, full)
				}
			}
		}
	}
}

func TestAKeyThatIsThereIsFound(t *testing.T) {
	for _, width := range []int{1, 2} {
		for _, slots := range []int{1, 2, 5, 64, 300, most} {
			for _, n := range []int{slots / 2, slots} {
				l := crowd(n+20, width)
				w := build(t, slots, width, l[:n]...)
				for i, r := range l {
					at, is := probe.Find(w, width, r[0])
					if i >= n {
						if at != 0 || is {
							t.Errorf("%d slots: a key that is not there: %d, %v", slots, at, is)
						}
						continue
					}
					if !is || w[at*width] != r[0] || width == 2 && w[at*width+1] != r[1] {
						t.Errorf("%d slots of %d: %v: %d, %v", slots, width, r, at, is)
					}
				}
			}
		}
	}
}

// What is handed in, what comes out (R3), and that it is the same each time (R4)

// roomy is words, and a word behind them that they have room for.
func roomy(l ...uint64) words { return append(slices.Clone(l), 77)[:len(l)] }

func TestNothingHandedInIsWrittenInto(t *testing.T) {
	for _, x := range []struct {
		w     words
		width int
	}{
		{words{4, 1, 2, 3}, 1}, {words{5, 0, 0, 0}, 1}, {words{3, 30, 2, 20, 1, 10}, 2}, {words{0, 0}, 2}, {words{5, 5}, 1}, {words{0, 1}, 2}, {nil, 1}, {words{1, 2, 3}, 7},
	} {
		w := roomy(x.w...)
		for _, key := range []uint64{0, 1, 4, 5, 6} {
			probe.Right(w, x.width)
			probe.Find(w, x.width, key)
			list := probe.List(w, x.width)
			with, _ := probe.Put(w, x.width, key, 0)
			without, _ := probe.Del(w, x.width, key)
			for _, out := range []words{with, without} {
				spoil(out)
			}
			for i := range list[:cap(list)] {
				list[:cap(list)][i] = record{99, 99}
			}
			if !slices.Equal(w[:len(w)+1], append(slices.Clone(x.w), 77)) {
				t.Fatalf("%v of a width of %d, %d: what was handed in is %v now", x.w, x.width, key, w[:len(w)+1])
			}
		}
	}
}

// spoil writes into words, and into all the room that they have.
func spoil(w words) {
	w = w[:cap(w)]
	for i := range w {
		w[i] = 99
	}
}

func TestRecordsHandedInAreNotWrittenInto(t *testing.T) {
	given := append(records{{5, 1}, {6, 2}, {7, 3}, {1, 4}}, record{77, 77})
	want := slices.Clone(given)
	for _, slots := range []int{0, 2, 4, 8} {
		w, _ := probe.Build(slots, 2, given[:4]...)
		spoil(w)
		if !slices.Equal(given, want) {
			t.Fatalf("%d slots: the records are %v now", slots, given)
		}
	}
}

func TestAnswersShareNothing(t *testing.T) {
	w := words{4, 1, 2, 3}
	a, _ := probe.Put(w, 1, 4, 0)
	b, _ := probe.Put(w, 1, 4, 0)
	c, _ := probe.Put(w, 1, 9, 0)
	d, _ := probe.Put(w, 1, 9, 0)
	spoil(a)
	spoil(c)
	if !slices.Equal(b, w) || !slices.Equal(d, w) {
		t.Error("an answer was changed by another one", b, d)
	}
	l, m := probe.List(w, 1), probe.List(w, 1)
	l[0] = record{99, 99}
	if !slices.Equal(m, keys(1, 2, 3, 4)) {
		t.Error("a list was changed by another one", m)
	}
}

func TestTheSameForTheSame(t *testing.T) {
	l := crowd(60, 2)
	want := build(t, 64, 2, l...)
	for range 20 {
		if got := build(t, 64, 2, l...); !slices.Equal(got, want) {
			t.Fatal("another table of the same records")
		}
		if got := probe.List(want, 2); !slices.Equal(got, rising(l)) {
			t.Fatal("another list of the same table")
		}
	}
}

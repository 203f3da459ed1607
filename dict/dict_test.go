package dict_test

import (
	"maps"
	"math"
	"math/rand/v2"
	"slices"
	"strconv"
	"sync"
	"testing"

	"whitewash/api"
	"whitewash/auto"
	"whitewash/dict"
	"whitewash/enc"
	"whitewash/mix"
)

type (
	words = []uint64
	pair  = [2]uint64
	pairs = [][2]uint64
)

const (
	greatest = math.MaxUint64
	beyond   = api.MaxKey + 1
	sign     = uint64(1 << 63)
)

var (
	// No configurations of a Dict: none that fit, and those of the other objects.
	others = []api.Conf{
		{}, {Kind: 0, Procs: 1, Cap: 1}, {Kind: 6, Procs: 1, Cap: 1}, {Kind: -3, Procs: 1, Cap: 1}, {Kind: 1<<32 + 3, Procs: 1, Cap: 1}, {Kind: math.MinInt, Procs: 1, Cap: 1}, {Kind: math.MaxInt, Procs: 1, Cap: 1},
		{Kind: api.Dict}, {Kind: api.Dict, Procs: 0, Cap: 1}, {Kind: api.Dict, Procs: 17, Cap: 1}, {Kind: api.Dict, Procs: -1, Cap: 1}, {Kind: api.Dict, Procs: math.MaxInt, Cap: 1},
		{Kind: api.Dict, Procs: 1, Cap: 0}, {Kind: api.Dict, Procs: 1, Cap: -1}, {Kind: api.Dict, Procs: 1, Cap: 257}, {Kind: api.Dict, Procs: 1, Cap: math.MaxInt}, {Kind: api.Dict, Procs: 1, Cap: math.MinInt},
		{Kind: api.Register, Procs: 1, Cap: 1}, {Kind: api.Set, Procs: 1, Cap: 1}, {Kind: api.Order, Procs: 1, Cap: 1}, {Kind: api.Ballot, Procs: 1, Cap: 1},
		{Kind: api.Register, Procs: 16, Cap: 256}, {Kind: api.Set, Procs: 16, Cap: 256}, {Kind: api.Order, Procs: 16, Cap: 256}, {Kind: api.Ballot, Procs: 16, Cap: 256}, {Kind: api.Set, Procs: 1, Cap: 2},
	}
	codes    = []int{0, 1, 2, 3, 4, 5, 6, 7, 8, 9, 10, 11, 12, 13, 14, 15, 16, 17, 18, 254, 255, 256, 257, -1, -7, -11, 1<<32 + 7, 1<<32 + 11, math.MinInt, math.MinInt + 7, math.MaxInt}
	someKeys = words{0, 1, 2, 3, 4, 5, 6, 7, 8, 9, 1 << 32, 1<<32 + 5, api.MaxKey - 1, api.MaxKey, beyond, beyond + 1, beyond + 5, sign, sign + 5, greatest - 1, greatest}
	someVals = words{0, 1, 2, 5, sign, 1 << 32, greatest}
)

func conf(n int) api.Conf { return api.Conf{Kind: api.Dict, Procs: 1, Cap: n} }

// chance is the same one each time.
func chance(seed uint64) *rand.Rand { return rand.New(rand.NewPCG(seed, 1)) }

func told(v uint64) api.Resp     { return api.Resp{Val: v} }
func fails(e api.Errno) api.Resp { return api.Resp{Errno: e} }

func shuffled(c *rand.Rand, l pairs) pairs {
	l = slices.Clone(l)
	c.Shuffle(len(l), func(i, j int) { l[i], l[j] = l[j], l[i] })
	return l
}

// revalued are pairs of the same keys, each with another value.
func revalued(l pairs) pairs {
	l = slices.Clone(l)
	for i := range l {
		l[i][1] ^= uint64(i)<<7 + 5
	}
	return l
}

// scattered are so many pairs of keys from all over those that may be, rising, and of values from all over all words.
func scattered(n int) pairs {
	c, seen := chance(uint64(n)), map[uint64]uint64{}
	for len(seen) < n {
		seen[c.Uint64N(beyond)] = c.Uint64()
	}
	return sorted(seen)
}

// ramp are so many keys from 0 on; some of their values are 0, and some alike.
func ramp(n int) pairs {
	var out pairs
	for i := range n {
		out = append(out, pair{uint64(i), uint64(i) % 5})
	}
	return out
}

func sorted(m map[uint64]uint64) pairs {
	var out pairs
	for _, k := range slices.Sorted(maps.Keys(m)) {
		out = append(out, pair{k, m[k]})
	}
	return out
}

// merged are the pairs of unlike keys, the last one of each, rising.
func merged(lists ...pairs) pairs {
	m := map[uint64]uint64{}
	for _, p := range slices.Concat(lists...) {
		m[p[0]] = p[1]
	}
	return sorted(m)
}

func stateOf(l pairs) api.State {
	var s api.State
	for _, p := range l {
		s.Keys, s.Vals = append(s.Keys, p[0]), append(s.Vals, p[1])
	}
	return s
}

func pairsOf(s api.State) pairs {
	var out pairs
	for i, k := range s.Keys {
		out = append(out, pair{k, s.Vals[i]})
	}
	return out
}

// image is the words of pairs of unlike keys, in whatever order, made in another way than in the table's order: each takes the slot of the first one that it goes Before, and that one goes on.
func image(n int, l pairs) words {
	w := make(words, 1+4*n)
	w[0] = uint64(len(l))
	for _, p := range l {
		r := pair{p[0] + 1, p[1]}
		for at := mix.Slot(r[0], 2*n); r[0] != 0; at = (at + 1) % (2 * n) {
			if there := (pair)(w[1+2*at:][:2]); there[0] == 0 || mix.Before(r[0], there[0]) {
				copy(w[1+2*at:], r[:])
				r = there
			}
		}
	}
	return w
}

// model is a dict made in another way: by a map that is gone through.
type model struct {
	room int
	held map[uint64]uint64
}

func modelOf(n int, l pairs) model {
	m := model{n, map[uint64]uint64{}}
	for _, p := range l {
		m.held[p[0]] = p[1]
	}
	return m
}

func (m model) pairs() pairs { return sorted(m.held) }

func (m model) do(op api.Op) api.Resp {
	was, is := m.held[op.Key]
	switch {
	case op.Code < 7 || op.Code > 11, op.Code != 9 && op.Key > 1<<62:
		return fails(10)
	case op.Code == 9:
		return told(uint64(len(m.held)))
	case op.Code == 8:
		return m.next(op.Key, op.Val != 0)
	case op.Code == 11 && !is && len(m.held) == m.room:
		return fails(11)
	case op.Code == 11:
		m.held[op.Key] = op.Val
		return told(was)
	case !is:
		return fails(12)
	case op.Code == 7:
		delete(m.held, op.Key)
	}
	return told(was)
}

func (m model) next(key uint64, behind bool) api.Resp {
	best := uint64(greatest)
	for k := range m.held {
		if k < best && (k > key || k == key && !behind) {
			best = k
		}
	}
	if best == greatest {
		return fails(12)
	}
	return told(best)
}

type sample struct {
	n int
	l pairs // by their keys, rising
}

func samples() []sample {
	out := []sample{
		{1, nil}, {1, pairs{{0, 0}}}, {1, pairs{{0, 7}}}, {1, pairs{{1, greatest}}}, {1, pairs{{7, 0}}}, {1, pairs{{api.MaxKey, sign}}}, {2, nil}, {2, pairs{{5, 1}}}, {2, pairs{{0, 0}, {api.MaxKey, 0}}},
		{3, nil}, {3, pairs{{0, 3}}}, {3, pairs{{5, 5}}}, {3, pairs{{0, 1}, {1, 0}}}, {3, pairs{{3, greatest}, {api.MaxKey, 3}}}, {3, pairs{{0, 2}, {1, 1}, {2, 0}}}, {3, pairs{{0, 9}, {9, 9}, {api.MaxKey, 9}}}, {3, pairs{{5, 50}, {6, 60}, {7, 70}}},
	}
	for _, n := range []int{2, 5, 16, 40, 255, 256} {
		for _, held := range []int{n / 2, n - 1, n} {
			out = append(out, sample{n, ramp(held)}, sample{n, scattered(held)})
		}
	}
	return out
}

// written are dicts and their words, written out.
var written = []struct {
	sample
	w words
}{
	{sample{1, nil}, words{0, 0, 0, 0, 0}},
	{sample{3, pairs{{5, 50}, {6, 60}, {7, 70}}}, words{3, 7, 60, 0, 0, 0, 0, 0, 0, 8, 70, 6, 50}}, // all from slot 4 on: 8 goes Before 6, and 6 Before 7
	{sample{3, pairs{{5, 50}, {6, 60}}}, words{2, 0, 0, 0, 0, 0, 0, 0, 0, 6, 50, 7, 60}},           // 7 taken out
	{sample{3, pairs{{5, 50}, {6, 0}}}, words{2, 0, 0, 0, 0, 0, 0, 0, 0, 6, 50, 7, 0}},             // a value that is 0
	{sample{3, pairs{{0, 10}, {7, 70}, {api.MaxKey, 1}}}, words{3, 0, 0, 1, 10, 0, 0, 0, 0, 8, 70, api.MaxKey + 1, 1}},
}

func TestWritten(t *testing.T) {
	for _, x := range written {
		if w, e := dict.Update(conf(x.n), make(words, 1+4*x.n), x.l...); e != api.OK || !slices.Equal(w, x.w) {
			t.Error("update", x, w, e)
		}
		if l, e := dict.Pairs(conf(x.n), x.w); e != api.OK || !slices.Equal(l, x.l) {
			t.Error("pairs", x, l, e)
		}
	}
	three, two := written[1].w, written[2].w
	w, r, e := dict.Apply(conf(3), three, api.Op{Code: api.OpDel, Key: 7})
	if e != api.OK || r != told(70) || !slices.Equal(w, two) {
		t.Error("del", w, r, e)
	}
	w, r, e = dict.Apply(conf(3), two, api.Op{Code: api.OpPut, Key: 7, Val: 70})
	if e != api.OK || r != told(0) || !slices.Equal(w, three) {
		t.Error("put", w, r, e)
	}
	w, r, e = dict.Apply(conf(3), two, api.Op{Code: api.OpPut, Key: 6})
	if e != api.OK || r != told(60) || !slices.Equal(w, written[3].w) {
		t.Error("put 0", w, r, e)
	}
}

func TestExamples(t *testing.T) {
	w, e := dict.Update(conf(1), make(words, 5), pair{5, 1}, pair{5, 2})
	if e != api.OK || !slices.Equal(w, image(1, pairs{{5, 2}})) {
		t.Error("5 and 5", w, e)
	}
	if l, e := dict.Pairs(conf(1), w); e != api.OK || !slices.Equal(l, pairs{{5, 2}}) {
		t.Error("the pairs", l, e)
	}
	if next, r, e := dict.Apply(conf(1), w, api.Op{Code: api.OpGet, Key: 5}); e != api.OK || r != told(2) || !slices.Equal(next, w) {
		t.Error("get", next, r, e)
	}
	if w, e := dict.Update(conf(1), make(words, 5), pair{5, 1}, pair{6, 1}); e != api.ErrFull || len(w) != 0 {
		t.Error("5 and 6", w, e)
	}
}

// updates asks that Update makes those words, or tells that error and nothing else.
func updates(t *testing.T, c api.Conf, w words, l pairs, want words, no api.Errno) {
	t.Helper()
	if got, e := dict.Update(c, w, l...); e != no || !slices.Equal(got, want) {
		t.Fatal("update", c, w, l, got, e, want, no)
	}
}

// L1: the words are those of chapter 10, and the pairs come out of them again, rising.
func TestUpdateAndPairs(t *testing.T) {
	for i, x := range samples() {
		for _, procs := range []int{1, 2, 16} { // they count for nothing
			c := api.Conf{Kind: api.Dict, Procs: procs, Cap: x.n}
			want, e := enc.Enc(c, stateOf(x.l))
			if e != api.OK || !slices.Equal(want, image(x.n, x.l)) {
				t.Fatal("enc", c, x.l, want, e)
			}
			if l, e := dict.Pairs(c, want); e != api.OK || !slices.Equal(l, x.l) {
				t.Fatal("pairs", c, x.l, l, e)
			}
			luck := chance(uint64(i))
			updates(t, c, image(x.n, nil), shuffled(luck, x.l), want, api.OK)
			updates(t, c, image(x.n, nil), append(shuffled(luck, revalued(x.l)), shuffled(luck, x.l)...), want, api.OK)
			updates(t, c, image(x.n, x.l[len(x.l)/2:]), shuffled(luck, x.l), want, api.OK)
			updates(t, c, image(x.n, revalued(x.l)), shuffled(luck, x.l), want, api.OK)
			updates(t, c, want, nil, want, api.OK)
			updates(t, c, want, x.l[len(x.l)/2:], want, api.OK)
		}
	}
}

// L1: what is not among the pairs stays, and of those of one key the last one holds.
func TestUpdateWritten(t *testing.T) {
	for _, x := range []struct{ was, l, then pairs }{
		{nil, nil, nil},
		{nil, pairs{{0, 0}}, pairs{{0, 0}}},
		{nil, pairs{{5, 1}, {5, 2}, {5, 0}}, pairs{{5, 0}}},
		{nil, pairs{{5, 2}, {6, 3}, {5, 1}}, pairs{{5, 1}, {6, 3}}},
		{nil, pairs{{api.MaxKey, 1}, {0, 2}, {5, 3}}, pairs{{0, 2}, {5, 3}, {api.MaxKey, 1}}},
		{pairs{{5, 1}}, nil, pairs{{5, 1}}},
		{pairs{{5, 1}}, pairs{{5, 0}}, pairs{{5, 0}}},
		{pairs{{5, 9}}, pairs{{5, 2}}, pairs{{5, 2}}},
		{pairs{{5, 1}}, pairs{{6, 2}}, pairs{{5, 1}, {6, 2}}},
		{pairs{{5, 1}}, pairs{{4, 2}}, pairs{{4, 2}, {5, 1}}},
		{pairs{{5, 1}, {7, 3}}, pairs{{6, 8}, {5, 4}, {6, 2}}, pairs{{5, 4}, {6, 2}, {7, 3}}},
		{pairs{{5, 1}, {6, 2}, {7, 3}}, pairs{{7, 1}, {7, greatest}, {5, sign}}, pairs{{5, sign}, {6, 2}, {7, greatest}}}, // full
		{pairs{{5, 1}, {6, 2}, {7, 3}}, slices.Repeat(pairs{{6, 4}, {6, 5}}, 1000), pairs{{5, 1}, {6, 5}, {7, 3}}},
	} {
		updates(t, conf(3), image(3, x.was), x.l, image(3, x.then), api.OK)
	}
	for _, x := range []struct{ was, l pairs }{
		{nil, pairs{{5, 1}, {6, 1}, {7, 1}, {8, 1}}},
		{nil, pairs{{5, 1}, {6, 1}, {5, 2}, {7, 1}, {8, 1}, {6, 2}}},
		{pairs{{5, 1}, {6, 2}, {7, 3}}, pairs{{0, 0}}},
		{pairs{{5, 1}, {6, 2}, {7, 3}}, pairs{{5, 2}, {8, 0}}},
		{pairs{{5, 1}, {6, 2}, {7, 3}}, pairs{{8, 0}, {5, 2}}},
		{pairs{{5, 1}, {6, 2}, {7, 3}}, pairs{{api.MaxKey, 1}}},
		{pairs{{5, 1}, {6, 2}}, pairs{{8, 0}, {9, 0}}},
		{pairs{{5, 1}}, pairs{{0, 0}, {1, 0}, {2, 0}}},
	} {
		updates(t, conf(3), image(3, x.was), x.l, nil, api.ErrFull)
	}
}

func TestUpdateEachRoom(t *testing.T) {
	for n := 1; n <= api.MaxCap; n++ {
		l := scattered(n + 1)
		full, one := shuffled(chance(uint64(n)), l[:n]), pair{uint64(n), 1}
		updates(t, conf(n), image(n, nil), slices.Concat(revalued(full), full), image(n, full), api.OK)
		updates(t, conf(n), image(n, full[n/2:]), full[:n/2], image(n, full), api.OK)
		updates(t, conf(n), image(n, full), revalued(full), image(n, revalued(full)), api.OK)
		updates(t, conf(n), image(n, nil), l, nil, api.ErrFull)
		updates(t, conf(n), image(n, nil), slices.Repeat(l, 3), nil, api.ErrFull)
		updates(t, conf(n), image(n, full), l[n:], nil, api.ErrFull)
		updates(t, conf(n), image(n, full[n/2:]), append(slices.Clone(full[:n/2]), l[n]), nil, api.ErrFull)
		updates(t, conf(n), image(n, nil), append(slices.Repeat(pairs{{one[0], 2}, {one[0], 0}}, 1000), one), image(n, pairs{one}), api.OK)
	}
	updates(t, conf(256), image(256, nil), ramp(100000), nil, api.ErrFull)
}

func TestUpdateRefusesKeys(t *testing.T) {
	full := pairs{{1, 1}, {2, 2}}
	for _, k := range (words{beyond, beyond + 1, beyond + 5, 1<<62 + 1<<61, sign - 1, sign, sign + 5, greatest - 1, greatest}) {
		// Where there are too many as well, the key is what is told; a value may be anything.
		for _, l := range []pairs{{{k, 0}}, {{k, 1}, {k, 2}}, {{k, 1}, {1, 1}}, {{1, 1}, {k, 1}}, {{1, 1}, {2, 1}, {k, 1}}, {{k, 1}, {5, 1}, {6, 1}, {7, 1}}, {{5, 1}, {k, 1}, {6, 1}, {7, 1}}, {{5, 1}, {6, 1}, {7, 1}, {k, 1}}, append(ramp(1000), pair{k, 1})} {
			for _, was := range []pairs{nil, full[:1], full} {
				updates(t, conf(2), image(2, was), l, nil, api.ErrArg)
			}
		}
		updates(t, conf(2), image(2, nil), pairs{{1, k}, {2, k}}, image(2, pairs{{1, k}, {2, k}}), api.OK)
	}
	updates(t, conf(2), image(2, nil), pairs{{api.MaxKey, 5}, {0, 1}, {api.MaxKey, 6}}, image(2, pairs{{0, 1}, {api.MaxKey, 6}}), api.OK)
}

// A configuration is looked at ahead of all else.
func TestOthers(t *testing.T) {
	for _, c := range others {
		for _, n := range []int{0, 1, 3, 5, 6, 9, 10, 13, 1 + 2*256, 1 + 4*256, 1 + 4*257, 2 + 4*256, 9 + 256} {
			for _, first := range (words{0, 1, greatest}) {
				unsuited(t, c, append(words{first}, make(words, n)...)[:n], api.ErrConfig)
			}
		}
		unsuited(t, c, image(1, pairs{{5, 1}}), api.ErrConfig)
		unsuited(t, c, image(256, ramp(256)), api.ErrConfig)
		if s, e := auto.New(c); e == api.OK {
			w, _ := enc.Enc(c, s)
			unsuited(t, c, w, api.ErrConfig)
		}
	}
}

// unsuited asks that each of the three tells that error, and nothing else, of what may be and of what may not.
func unsuited(t *testing.T, c api.Conf, w words, want api.Errno) {
	t.Helper()
	if l, e := dict.Pairs(c, w); e != want || len(l) != 0 {
		t.Fatal("pairs", c, w, l, e)
	}
	for _, l := range []pairs{nil, {{5, 1}}, {{1, 1}, {1, 2}}, {{beyond, 1}}, {{1, 1}, {2, 2}, {greatest, 1}}, ramp(300)} {
		updates(t, c, w, l, nil, want)
	}
	for _, op := range []api.Op{{}, {Code: api.OpGet, Key: 5}, {Code: api.OpPut, Key: 5}, {Code: api.OpDel, Key: 5}, {Code: api.OpNext}, {Code: api.OpCount}, {Code: api.OpPut, Key: greatest}, {Code: math.MinInt}} {
		if next, r, e := dict.Apply(c, w, op); e != want || r != (api.Resp{}) || len(next) != 0 {
			t.Fatal("apply", c, w, op, next, r, e)
		}
	}
}

func unformed(t *testing.T, n int, w words) {
	t.Helper()
	unsuited(t, conf(n), w, api.ErrForm)
}

func TestForms(t *testing.T) {
	for n, l := range map[int][]words{
		1: {
			{0, 1, 0, 0, 0}, {0, 0, 0, 1, 0}, {1, 0, 0, 0, 0}, {greatest, 0, 0, 0, 0}, {2, 0, 0, 0, 0}, {2, 1, 5, 2, 5}, {2, 2, 5, 1, 5}, {1, 1, 5, 2, 5},
			{0, 0, 5, 0, 0}, {0, 0, 0, 0, 5}, {1, 0, 5, 0, 0}, {1, 0, 0, 0, 5}, {0, 0, greatest, 0, 0}, // a value without a key
			{1, 7, 5, 7, 5}, {2, 7, 5, 7, 5}, {1, 7, 5, 7, 6}, {2, 7, 5, 7, 6},
			{1, beyond + 1, 0, 0, 0}, {1, 0, 0, beyond + 1, 0}, {1, greatest, 0, 0, 0}, {1, 0, 0, greatest, 0}, {0, greatest, 0, greatest, 0},
		},
		3: {
			{3, 7, 60, 0, 0, 0, 0, 0, 0, 6, 50, 8, 70}, {3, 8, 70, 0, 0, 0, 0, 0, 0, 7, 60, 6, 50}, {3, 0, 0, 7, 60, 0, 0, 0, 0, 8, 70, 6, 50}, // in other slots
			{2, 7, 60, 0, 0, 0, 0, 0, 0, 8, 70, 6, 50}, {4, 7, 60, 0, 0, 0, 0, 0, 0, 8, 70, 6, 50}, {0, 7, 60, 0, 0, 0, 0, 0, 0, 8, 70, 6, 50}, {1<<32 | 3, 7, 60, 0, 0, 0, 0, 0, 0, 8, 70, 6, 50}, {sign | 3, 7, 60, 0, 0, 0, 0, 0, 0, 8, 70, 6, 50},
			{3, 7, 60, 0, 0, 0, 1, 0, 0, 8, 70, 6, 50}, {3, 7, 60, 0, 60, 0, 0, 0, 0, 8, 70, 6, 50}, {2, 0, 60, 0, 0, 0, 0, 0, 0, 8, 70, 6, 50}, // what was left behind
			{3, 7, 60, 0, 0, 0, 0, 0, 0, 8, 70, 8, 70}, {2, 7, 60, 0, 0, 0, 0, 0, 0, 8, 70, 8, 50}, {3, 8, 60, 0, 0, 0, 0, 0, 0, 8, 70, 6, 50},
			{3, 0, 0, 0, 0, 0, 0, 0, 0, 0, 0, 0, 0}, {1, 0, 0, 0, 0, 0, 0, 0, 0, 0, 0, 0, 0}, {6, 1, 0, 2, 0, 3, 0, 4, 0, 5, 0, 6, 0},
		},
	} {
		for _, w := range l {
			unformed(t, n, w)
		}
	}
	for _, x := range samples() {
		w := image(x.n, x.l)
		unformed(t, x.n, nil)
		unformed(t, x.n, w[:len(w)-1])
		unformed(t, x.n, w[:len(w)-2])
		unformed(t, x.n, w[1:])
		unformed(t, x.n, append(words{0}, w...))
		unformed(t, x.n, append(slices.Clone(w), 0))
		unformed(t, x.n, append(slices.Clone(w), 0, 0, 0, 0))
		unformed(t, x.n, append(slices.Clone(w), make(words, len(w))...))
		unformed(t, x.n, make(words, 1<<12))
	}
}

// A table that is well, of keys of which there are too many, or that are too great, is no Dict's.
func TestTablesOfNoDict(t *testing.T) {
	for _, n := range []int{1, 2, 3, 16, 255, 256} {
		for _, held := range []int{n + 1, 2*n - 1, 2 * n} {
			if held <= n {
				continue
			}
			for _, l := range []pairs{ramp(held), scattered(held)} {
				w := image(n, l)
				unformed(t, n, w)
				w[0] = uint64(n)
				unformed(t, n, w)
				w[0] = 0
				unformed(t, n, w)
			}
		}
		for _, k := range (words{beyond, beyond + 1, sign, greatest - 1}) {
			unformed(t, n, image(n, pairs{{k, 5}}))
			unformed(t, n, image(n, append(ramp(n-1), pair{k, 0})))
		}
		unformed(t, n, image(n+1, ramp(n)))
	}
}

func text(w words) string {
	var out []byte
	for _, v := range w {
		out = append(strconv.AppendUint(out, v, 36), ' ')
	}
	return string(out)
}

func textOf(l pairs) string {
	var w words
	for _, p := range l {
		w = append(w, p[:]...)
	}
	return text(w)
}

// choices tells all lists of so many of these words.
func choices(n int, of words, tell func(words)) {
	w := make(words, n)
	var from func(int)
	from = func(i int) {
		if i == n {
			tell(w)
			return
		}
		for _, v := range of {
			w[i] = v
			from(i + 1)
		}
	}
	from(0)
}

// dicts are all dicts of some of the keys, at most so many, each with one of the values; the keys rise.
func dicts(most int, keys, vals words) []pairs {
	out := []pairs{nil}
	for _, k := range keys {
		for _, l := range slices.Clone(out) {
			for _, v := range vals {
				if len(l) < most {
					out = append(out, append(slices.Clone(l), pair{k, v}))
				}
			}
		}
	}
	return out
}

// Of all words of small dicts those that are one's are taken, and no others.
func TestAllSmallWords(t *testing.T) {
	for _, x := range []struct {
		n              int
		of, keys, vals words
	}{
		{1, words{0, 1, 2, 3, 4, 5, beyond, beyond + 1, greatest}, words{0, 1, 2, 3, 4, api.MaxKey}, words{0, 1, 2, 3, 4, 5, beyond, beyond + 1, greatest}},
		{2, words{0, 1, 2, 3}, words{0, 1, 2}, words{0, 1, 2, 3}},
	} {
		whose := map[string]pairs{}
		for _, l := range dicts(x.n, x.keys, x.vals) {
			whose[text(image(x.n, l))] = l
		}
		met := 0
		choices(1+4*x.n, x.of, func(w words) {
			want, is := whose[text(w)]
			l, e := dict.Pairs(conf(x.n), w)
			if !is && (e != api.ErrForm || len(l) != 0) {
				t.Fatal("taken", x.n, w, l, e)
			}
			if !is {
				return
			}
			met++
			next, r, f := dict.Apply(conf(x.n), w, api.Op{Code: api.OpCount})
			if e != api.OK || f != api.OK || !slices.Equal(l, want) || !slices.Equal(next, w) || r != told(uint64(len(want))) {
				t.Fatal("refused", x.n, w, l, e, next, r, f)
			}
			updates(t, conf(x.n), w, nil, w, api.OK)
		})
		if met != len(whose) || met < 50 {
			t.Error(x.n, met, "of", len(whose))
		}
	}
}

// Words of which one is turned, or two are swapped, are taken where chapter 10 takes them.
func TestTurned(t *testing.T) {
	c := chance(5)
	for _, x := range samples() {
		w := image(x.n, x.l)
		for range 60 {
			again := slices.Clone(w)
			i, j := c.IntN(len(w)), c.IntN(len(w))
			switch was := again[i]; c.IntN(4) {
			case 0:
				again[i], again[j] = again[j], was
			case 1:
				again[i] = was + c.Uint64N(3) - 1
			case 2:
				again[i] = was ^ 1<<c.UintN(64)
			case 3:
				again[i] = w[j]
			}
			s, want := enc.Dec(conf(x.n), again)
			if l, e := dict.Pairs(conf(x.n), again); e != want || !slices.Equal(l, pairsOf(s)) {
				t.Fatal("pairs", x, again, l, e, want)
			}
			if next, r, e := dict.Apply(conf(x.n), again, api.Op{Code: api.OpCount}); e != want || r != told(uint64(len(s.Keys))) || e == api.OK && !slices.Equal(next, again) {
				t.Fatal("apply", x, again, next, r, e, want)
			}
			if next, e := dict.Update(conf(x.n), again); e != want || e == api.OK && !slices.Equal(next, again) {
				t.Fatal("update", x, again, next, e, want)
			}
		}
	}
}

// agrees asks that a call of a dict does, and tells, what the model's and chapter 9's do; it tells the words that are then.
func agrees(t *testing.T, c api.Conf, w words, m model, op api.Op) words {
	t.Helper()
	state, wantResp, e := auto.Do(c, stateOf(m.pairs()), op)
	wantWords, f := enc.Enc(c, state)
	if r := m.do(op); e != api.OK || f != api.OK || r != wantResp || !slices.Equal(wantWords, image(c.Cap, m.pairs())) {
		t.Fatal("the model", c, w, op, r, wantResp, e, f)
	}
	next, r, e := dict.Apply(c, w, op)
	if e != api.OK || r != wantResp || !slices.Equal(next, wantWords) {
		t.Fatal(c, w, op, next, r, e)
	}
	return next
}

// L2: all calls, over some dicts.
func TestApply(t *testing.T) {
	for _, x := range samples() {
		if x.n > 5 {
			continue
		}
		w := image(x.n, x.l)
		for _, code := range codes {
			for _, k := range someKeys {
				for _, v := range someVals {
					agrees(t, conf(x.n), w, modelOf(x.n, x.l), api.Op{Code: code, Key: k, Val: v})
				}
			}
		}
	}
}

func TestApplyToLargeOnes(t *testing.T) {
	for _, x := range samples() {
		if x.n <= 5 {
			continue
		}
		w, near := image(x.n, x.l), words{0, beyond, greatest, sign, api.MaxKey}
		for i := 0; i < len(x.l); i += 1 + len(x.l)/4 {
			near = append(near, x.l[i][0], x.l[i][0]+1, x.l[i][0]-1)
		}
		for _, k := range near {
			for code := api.OpAdd; code <= api.OpCast; code++ {
				for v := range uint64(2) {
					agrees(t, conf(x.n), w, modelOf(x.n, x.l), api.Op{Code: code, Key: k, Val: v})
				}
			}
		}
	}
}

// What each call of a dict with 5 and 7 tells, and leaves, written out.
func TestApplyWritten(t *testing.T) {
	was := pairs{{5, 50}, {7, 0}}
	for _, x := range []struct {
		n    int
		op   api.Op
		r    api.Resp
		then pairs
	}{
		{3, api.Op{Code: api.OpGet, Key: 5, Val: 9}, told(50), was},
		{3, api.Op{Code: api.OpGet, Key: 7}, told(0), was},
		{3, api.Op{Code: api.OpGet, Key: 6}, fails(api.ErrNone), was},
		{3, api.Op{Code: api.OpGet, Key: api.MaxKey}, fails(api.ErrNone), was},
		{3, api.Op{Code: api.OpGet, Key: beyond}, fails(api.ErrBadOp), was},
		{3, api.Op{Code: api.OpPut, Key: 6, Val: 60}, told(0), pairs{{5, 50}, {6, 60}, {7, 0}}},
		{3, api.Op{Code: api.OpPut, Key: 6}, told(0), pairs{{5, 50}, {6, 0}, {7, 0}}},
		{3, api.Op{Code: api.OpPut, Key: 0, Val: greatest}, told(0), pairs{{0, greatest}, {5, 50}, {7, 0}}},
		{3, api.Op{Code: api.OpPut, Key: api.MaxKey, Val: 1}, told(0), pairs{{5, 50}, {7, 0}, {api.MaxKey, 1}}},
		{3, api.Op{Code: api.OpPut, Key: 5, Val: 51}, told(50), pairs{{5, 51}, {7, 0}}},
		{3, api.Op{Code: api.OpPut, Key: 5}, told(50), pairs{{5, 0}, {7, 0}}},
		{3, api.Op{Code: api.OpPut, Key: 5, Val: 50}, told(50), was},
		{2, api.Op{Code: api.OpPut, Key: 7, Val: 70}, told(0), pairs{{5, 50}, {7, 70}}},
		{2, api.Op{Code: api.OpPut, Key: 6, Val: 60}, fails(api.ErrFull), was},
		{2, api.Op{Code: api.OpPut, Key: 6}, fails(api.ErrFull), was},
		{2, api.Op{Code: api.OpPut, Key: beyond}, fails(api.ErrBadOp), was},
		{3, api.Op{Code: api.OpPut, Key: greatest, Val: 1}, fails(api.ErrBadOp), was},
		{3, api.Op{Code: api.OpDel, Key: 5, Val: 9}, told(50), pairs{{7, 0}}},
		{2, api.Op{Code: api.OpDel, Key: 7}, told(0), pairs{{5, 50}}},
		{3, api.Op{Code: api.OpDel, Key: 6}, fails(api.ErrNone), was},
		{3, api.Op{Code: api.OpDel, Key: greatest}, fails(api.ErrBadOp), was},
		{3, api.Op{Code: api.OpNext}, told(5), was},
		{3, api.Op{Code: api.OpNext, Val: 1}, told(5), was},
		{3, api.Op{Code: api.OpNext, Key: 5}, told(5), was},
		{3, api.Op{Code: api.OpNext, Key: 5, Val: 1}, told(7), was},
		{3, api.Op{Code: api.OpNext, Key: 5, Val: sign}, told(7), was},
		{3, api.Op{Code: api.OpNext, Key: 6}, told(7), was},
		{3, api.Op{Code: api.OpNext, Key: 6, Val: 1}, told(7), was},
		{3, api.Op{Code: api.OpNext, Key: 7, Val: 1}, fails(api.ErrNone), was},
		{3, api.Op{Code: api.OpNext, Key: 8}, fails(api.ErrNone), was},
		{3, api.Op{Code: api.OpNext, Key: beyond}, fails(api.ErrBadOp), was},
		{3, api.Op{Code: api.OpCount}, told(2), was},
		{3, api.Op{Code: api.OpCount, Key: greatest, Val: 3}, told(2), was}, // it speaks of no key
		{3, api.Op{}, fails(api.ErrBadOp), was},
		{3, api.Op{Code: api.OpHas, Key: 5}, fails(api.ErrBadOp), was},
		{3, api.Op{Code: api.OpAdd, Key: 6}, fails(api.ErrBadOp), was},
		{3, api.Op{Code: api.OpWrite, Key: 5, Val: 1}, fails(api.ErrBadOp), was},
		{3, api.Op{Code: api.OpCast, Key: 5, Val: 1}, fails(api.ErrBadOp), was},
		{3, api.Op{Code: -api.OpGet, Key: 5}, fails(api.ErrBadOp), was},
	} {
		w, r, e := dict.Apply(conf(x.n), image(x.n, was), x.op)
		if e != api.OK || r != x.r || !slices.Equal(w, image(x.n, x.then)) {
			t.Error(x, w, r, e)
		}
	}
}

// All calls of small dicts, each from each, and all pairs that are laid in.
func TestSmallDicts(t *testing.T) {
	for n := 1; n <= 3; n++ {
		for _, was := range dicts(n, words{0, 1, 4, api.MaxKey}, words{0, 2}) {
			w := image(n, was)
			for _, k := range (words{0, 1, 2, 3, 4, 5, api.MaxKey - 1, api.MaxKey, beyond}) {
				for v := range uint64(3) {
					for code := api.OpAdd; code <= api.OpCast; code++ {
						agrees(t, conf(n), w, modelOf(n, was), api.Op{Code: code, Key: k, Val: v})
					}
					lays(t, n, was, pairs{{k, v}})
					lays(t, n, was, pairs{{k, v}, {0, 2}, {k, 1}})
					lays(t, n, was, pairs{{1, v}, {k, v}, {1, 1}})
				}
			}
		}
	}
}

// lays asks that Update makes what chapter 10 makes of all pairs, or tells why there is no such state.
func lays(t *testing.T, n int, was, l pairs) {
	t.Helper()
	all := merged(was, l)
	want, e := enc.Enc(conf(n), stateOf(all))
	switch {
	case slices.ContainsFunc(l, func(p pair) bool { return p[0] > 1<<62 }):
		updates(t, conf(n), image(n, was), l, nil, 1)
	case len(all) > n:
		updates(t, conf(n), image(n, was), l, nil, 11)
	case e != api.OK:
		t.Fatal("enc", n, all, e)
	default:
		updates(t, conf(n), image(n, was), l, want, api.OK)
	}
}

func TestLongRuns(t *testing.T) {
	c := chance(3)
	for _, n := range []int{1, 2, 3, 7, 40, 256} {
		w, m := image(n, nil), modelOf(n, nil)
		for i := range 1500 {
			op := api.Op{Code: api.OpPut - 4*c.IntN(2), Key: c.Uint64N(uint64(2*n + 1)), Val: c.Uint64N(4)}
			if i%4 == 0 {
				op.Code = api.OpAdd + c.IntN(7)
			}
			if i < 500 && op.Code == api.OpDel { // till it is full
				op.Code = api.OpPut
			}
			w = agrees(t, conf(n), w, m, op)
			if l, e := dict.Pairs(conf(n), w); e != api.OK || !slices.Equal(l, m.pairs()) {
				t.Fatal("pairs", n, w, l, e)
			}
			if i%10 == 0 {
				some := make(pairs, c.IntN(n+2))
				for j := range some {
					some[j] = pair{c.Uint64N(uint64(2*n + 1)), c.Uint64N(4)}
				}
				lays(t, n, m.pairs(), some)
			}
		}
	}
}

// orders tells all orders of the pairs.
func orders(l pairs, tell func(pairs)) {
	var from func(int)
	from = func(i int) {
		if i == len(l) {
			tell(l)
			return
		}
		for j := i; j < len(l); j++ {
			l[i], l[j] = l[j], l[i]
			from(i + 1)
			l[i], l[j] = l[j], l[i]
		}
	}
	from(0)
}

// put applies calls of OpPut, one behind the other; none of them may be refused.
func put(t *testing.T, n int, w words, l ...pair) words {
	t.Helper()
	for _, p := range l {
		w = goes(t, n, w, api.Op{Code: api.OpPut, Key: p[0], Val: p[1]})
	}
	return w
}

// del applies calls of OpDel, which tell the values.
func del(t *testing.T, n int, w words, l ...pair) words {
	t.Helper()
	for _, p := range l {
		w = goes(t, n, w, api.Op{Code: api.OpDel, Key: p[0]})
	}
	return w
}

func goes(t *testing.T, n int, w words, op api.Op) words {
	t.Helper()
	next, r, e := dict.Apply(conf(n), w, op)
	if e != api.OK || r.Errno != api.OK {
		t.Fatal(n, w, op, r, e)
	}
	return next
}

// L3: in whatever order pairs are put.
func TestAllOrders(t *testing.T) {
	for _, l := range []pairs{{{5, 1}, {6, 2}}, {{5, 50}, {6, 60}, {7, 70}}, {{0, 0}, {5, 0}, {6, 1}, {7, 1}}, {{3, 3}, {5, 2}, {6, 1}, {7, 0}, {api.MaxKey, greatest}}, {{0, 6}, {1, 5}, {2, 4}, {3, 3}, {4, 2}, {1 << 40, 1}}} {
		for _, n := range []int{len(l), len(l) + 1, 2 * len(l)} {
			empty, want := make(words, 1+4*n), image(n, l)
			orders(slices.Clone(l), func(l pairs) {
				if w := put(t, n, empty, l...); !slices.Equal(w, want) {
					t.Fatal("put", n, l, w)
				}
				updates(t, conf(n), empty, l, want, api.OK)
			})
		}
	}
}

// L3: whatever was put first, and taken out between, and in whatever order.
func TestNoTrace(t *testing.T) {
	c := chance(11)
	for _, n := range []int{2, 3, 4, 16, 256} {
		all := scattered(n)
		for range 10 {
			l, empty := shuffled(c, all), make(words, 1+4*n)
			stay, go1, go2 := l[:n/2], l[n/2:n*3/4], l[n*3/4:]
			want := image(n, stay)
			ways := []words{del(t, n, put(t, n, empty, l...), shuffled(c, l[n/2:])...)}
			w := put(t, n, empty, append(slices.Clone(go1), go2...)...)
			w = del(t, n, w, go1...)
			w = put(t, n, w, append(shuffled(c, revalued(stay)), stay...)...) // twice: other values first
			ways = append(ways, del(t, n, w, shuffled(c, go2)...))
			w = del(t, n, want, stay...)
			if !slices.Equal(w, empty) {
				t.Fatal("all taken out", n, w)
			}
			ways = append(ways, put(t, n, w, shuffled(c, stay)...))
			ways = append(ways, put(t, n, put(t, n, want, revalued(stay)...), shuffled(c, stay)...))
			for i, w := range ways {
				if !slices.Equal(w, want) {
					t.Fatal(i, n, l, w)
				}
			}
		}
	}
}

// L3: Update is what puts, one behind the other, make, or nothing at all.
func TestUpdateIsPuts(t *testing.T) {
	c := chance(29)
	for range 3000 {
		n := 1 + c.IntN(5)
		w := image(n, nil)
		for range c.IntN(n + 1) {
			w = goes(t, n, w, api.Op{Code: api.OpPut, Key: c.Uint64N(8), Val: c.Uint64N(3)})
		}
		l := make(pairs, c.IntN(n+3))
		for i := range l {
			l[i] = pair{c.Uint64N(8), c.Uint64N(3)}
		}
		then, full := w, false
		for _, p := range l {
			next, r, _ := dict.Apply(conf(n), then, api.Op{Code: api.OpPut, Key: p[0], Val: p[1]})
			then, full = next, full || r.Errno == api.ErrFull
		}
		if full {
			updates(t, conf(n), w, l, nil, api.ErrFull)
			continue
		}
		updates(t, conf(n), w, l, then, api.OK)
		for i := range l { // and in two goes
			first, _ := dict.Update(conf(n), w, l[:i]...)
			updates(t, conf(n), first, l[i:], then, api.OK)
		}
	}
}

// Two dicts that were come by in other ways are the same, if they have the same keys and values, and are others, if not.
func TestTheorem(t *testing.T) {
	c := chance(17)
	whose := map[string]string{}
	by := map[string]string{}
	for range 6000 {
		w, m := image(3, nil), modelOf(3, nil)
		for range 1 + c.IntN(12) {
			op := api.Op{Code: api.OpPut - 4*c.IntN(2), Key: c.Uint64N(4), Val: c.Uint64N(2)}
			m.do(op)
			w, _, _ = dict.Apply(conf(3), w, op)
		}
		held, is := textOf(m.pairs()), text(w)
		if one, met := whose[is]; met && one != held {
			t.Fatal("two dicts, the same words", one, held, w)
		}
		if one, met := by[held]; met && one != is {
			t.Fatal("a dict in two ways", held, one, is)
		}
		whose[is], by[held] = held, is
	}
	if len(by) != 65 { // of 4 keys 0, 1, 2 or 3, each with one of two values
		t.Error(len(by))
	}
}

// roomy has the same things, and room behind them in which other ones stand.
func roomy[T any](l []T, other T) []T {
	return append(slices.Clone(l), other, other, other)[:len(l)]
}

func intact[T comparable](l, want []T, other T) bool {
	return slices.Equal(l, want) && slices.Equal(l[len(l):len(l)+3], []T{other, other, other})
}

func spoil[T any](l []T, other T) {
	l = l[:cap(l)]
	for i := range l {
		l[i] = other
	}
}

var (
	bad      = uint64(0xbad)
	badPair  = pair{0xbad, 0xbad}
	allCalls = []api.Op{
		{Code: api.OpGet, Key: 5}, {Code: api.OpPut, Key: 5, Val: 9}, {Code: api.OpPut, Key: 6, Val: 9}, {Code: api.OpPut, Key: 1 << 50}, {Code: api.OpPut, Key: greatest}, {Code: api.OpDel, Key: 5}, {Code: api.OpDel, Key: 0},
		{Code: api.OpNext, Val: 1}, {Code: api.OpNext, Key: api.MaxKey, Val: 1}, {Code: api.OpCount}, {Code: api.OpAdd}, {},
	}
)

func TestNothingHandedInIsWrittenInto(t *testing.T) {
	for i, x := range samples() {
		right := image(x.n, x.l)
		wrong := slices.Clone(right)
		wrong[len(wrong)-1] += 9
		wrong[len(wrong)-2] += 9
		back := slices.Concat(revalued(x.l), x.l)
		slices.Reverse(back)
		lists := []pairs{nil, back, shuffled(chance(uint64(i)), back), append(slices.Clone(x.l), pair{beyond, 1}), append(ramp(300), x.l...)}
		for _, w := range []words{right, wrong, right[1:], nil, image(x.n, nil)} {
			hand := roomy(w, 77)
			dict.Pairs(conf(x.n), hand)
			dict.Pairs(others[0], hand)
			for _, op := range allCalls {
				dict.Apply(conf(x.n), hand, op)
			}
			for _, l := range lists {
				other := roomy(l, badPair)
				dict.Update(conf(x.n), hand, other...)
				dict.Update(others[0], hand, other...)
				if !intact(other, l, badPair) {
					t.Error("pairs", x, l)
				}
			}
			if !intact(hand, w, 77) {
				t.Error("words", x, w)
			}
		}
	}
}

func TestAnswersShareNothing(t *testing.T) {
	for _, x := range samples() {
		want := image(x.n, x.l)
		w, handed := slices.Clone(want), slices.Clone(x.l)
		l, _ := dict.Pairs(conf(x.n), w)
		other, _ := dict.Pairs(conf(x.n), w)
		spoil(other, badPair)
		if !slices.Equal(w, want) || !slices.Equal(l, x.l) {
			t.Error("pairs", x, w, l)
		}
		for _, some := range []pairs{nil, handed} {
			one, _ := dict.Update(conf(x.n), w, some...)
			two, _ := dict.Update(conf(x.n), w, some...)
			spoil(one, bad)
			if !slices.Equal(two, want) || !slices.Equal(w, want) || !slices.Equal(handed, x.l) {
				t.Error("update", x, two, w, handed)
			}
		}
		for _, op := range allCalls {
			one, _, _ := dict.Apply(conf(x.n), w, op)
			two, _, _ := dict.Apply(conf(x.n), w, op)
			then := slices.Clone(two)
			spoil(one, bad)
			if !slices.Equal(two, then) || !slices.Equal(w, want) {
				t.Fatal("apply", x, op, w, two)
			}
		}
		one, _ := dict.Update(conf(x.n), w, handed...)
		two, _, _ := dict.Apply(conf(x.n), w, api.Op{Code: api.OpCount})
		spoil(w, bad)
		spoil(handed, badPair)
		if !slices.Equal(one, want) || !slices.Equal(two, want) || !slices.Equal(l, x.l) {
			t.Error("kept", x, one, two, l)
		}
	}
}

// Whatever is handed in, each call ends, and tells an error that it may.
func TestWhateverIsHandedIn(t *testing.T) {
	c := chance(23)
	anyConf := func() api.Conf {
		if c.IntN(3) == 0 {
			return others[c.IntN(len(others))]
		}
		return api.Conf{Kind: api.Dict, Procs: 1 + c.IntN(16), Cap: 1 + c.IntN(4)}
	}
	anyWords := func(cf api.Conf) words {
		out := make(words, c.IntN(18))
		if c.IntN(2) == 0 {
			out = make(words, 1+4*max(0, min(cf.Cap, 4)))
		}
		for i := range out {
			if c.IntN(20) == 0 {
				out[i] = someKeys[c.IntN(len(someKeys))]
			}
		}
		return out
	}
	anyPairs := func() pairs {
		out := make(pairs, c.IntN(7))
		for i := range out {
			out[i] = pair{someKeys[c.IntN(14+len(out))], someVals[c.IntN(len(someVals))]}
		}
		return out
	}
	for range 30000 {
		cf := anyConf()
		w, l, op := anyWords(cf), anyPairs(), api.Op{Code: codes[c.IntN(len(codes))], Key: someKeys[c.IntN(len(someKeys))], Val: someVals[c.IntN(len(someVals))]}
		held, want := enc.Dec(cf, w)
		if !auto.Right(cf, api.State{}) || cf.Kind != api.Dict {
			held, want = api.State{}, api.ErrConfig
		}
		if got, e := dict.Pairs(cf, w); e != want || !slices.Equal(got, pairsOf(held)) {
			t.Fatal("pairs", cf, w, got, e)
		}
		if want != api.OK {
			updates(t, cf, w, l, nil, want)
			if next, r, e := dict.Apply(cf, w, op); e != want || len(next) != 0 || r != (api.Resp{}) {
				t.Fatal("apply", cf, w, op, next, r, e)
			}
			continue
		}
		lays(t, cf.Cap, pairsOf(held), l)
		agrees(t, cf, w, modelOf(cf.Cap, pairsOf(held)), op)
	}
}

// What is answered hangs on what is asked alone, whoever asks at the same time.
func TestSameForTheSame(t *testing.T) {
	var all sync.WaitGroup
	l := samples()
	for range 4 {
		all.Go(func() {
			for _, x := range l {
				w, e := dict.Update(conf(x.n), make(words, 1+4*x.n), x.l...)
				if e != api.OK || !slices.Equal(w, image(x.n, x.l)) {
					t.Error("update", x)
				}
				if l, e := dict.Pairs(conf(x.n), w); e != api.OK || !slices.Equal(l, x.l) {
					t.Error("pairs", x)
				}
				for _, op := range allCalls {
					m := modelOf(x.n, x.l)
					r := m.do(op)
					if next, got, e := dict.Apply(conf(x.n), w, op); e != api.OK || got != r || !slices.Equal(next, image(x.n, m.pairs())) {
						t.Error("apply", x, op)
					}
				}
			}
		})
	}
	all.Wait()
}

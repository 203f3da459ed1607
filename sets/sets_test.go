package sets_test

import (
	"maps"
	"math"
	"math/rand/v2"
	"slices"
	"strconv"
	"sync"
	"testing"

	"whitewash/api"
	"whitewash/auto"
	"whitewash/enc"
	"whitewash/mix"
	"whitewash/sets"
)

type words = []uint64

const (
	greatest = math.MaxUint64
	beyond   = api.MaxKey + 1
	sign     = uint64(1 << 63)
)

var (
	// No configurations of a Set: none that fit, and those of the other objects.
	others = []api.Conf{
		{}, {Kind: 0, Procs: 1, Cap: 1}, {Kind: 6, Procs: 1, Cap: 1}, {Kind: -2, Procs: 1, Cap: 1}, {Kind: 1<<32 + 2, Procs: 1, Cap: 1}, {Kind: math.MinInt, Procs: 1, Cap: 1}, {Kind: math.MaxInt, Procs: 1, Cap: 1},
		{Kind: api.Set}, {Kind: api.Set, Procs: 0, Cap: 1}, {Kind: api.Set, Procs: 17, Cap: 1}, {Kind: api.Set, Procs: -1, Cap: 1}, {Kind: api.Set, Procs: math.MaxInt, Cap: 1},
		{Kind: api.Set, Procs: 1, Cap: 0}, {Kind: api.Set, Procs: 1, Cap: -1}, {Kind: api.Set, Procs: 1, Cap: 257}, {Kind: api.Set, Procs: 1, Cap: math.MaxInt}, {Kind: api.Set, Procs: 1, Cap: math.MinInt},
		{Kind: api.Register, Procs: 1, Cap: 1}, {Kind: api.Dict, Procs: 1, Cap: 1}, {Kind: api.Order, Procs: 1, Cap: 1}, {Kind: api.Ballot, Procs: 1, Cap: 1},
		{Kind: api.Register, Procs: 16, Cap: 256}, {Kind: api.Dict, Procs: 16, Cap: 256}, {Kind: api.Order, Procs: 16, Cap: 256}, {Kind: api.Ballot, Procs: 16, Cap: 256}, {Kind: api.Dict, Procs: 1, Cap: 2},
	}
	codes    = []int{0, 1, 2, 3, 4, 5, 6, 7, 8, 9, 10, 11, 12, 13, 14, 15, 16, 17, 18, 254, 255, 256, 257, -1, -5, -9, 1<<32 + 5, 1<<32 + 9, math.MinInt, math.MinInt + 6, math.MaxInt}
	someKeys = words{0, 1, 2, 3, 4, 5, 6, 7, 8, 9, 1 << 32, 1<<32 + 5, api.MaxKey - 1, api.MaxKey, beyond, beyond + 1, beyond + 5, sign, sign + 5, greatest - 1, greatest}
	someVals = words{0, 1, 2, 5, sign, 1 << 32, greatest}
)

func conf(n int) api.Conf { return api.Conf{Kind: api.Set, Procs: 1, Cap: n} }

// chance is the same one each time.
func chance(seed uint64) *rand.Rand { return rand.New(rand.NewPCG(seed, 1)) }

func told(v uint64) api.Resp     { return api.Resp{Val: v} }
func fails(e api.Errno) api.Resp { return api.Resp{Errno: e} }

func rising(l words) words {
	l = slices.Clone(l)
	slices.Sort(l)
	return slices.Compact(l)
}

func shuffled(c *rand.Rand, l words) words {
	l = slices.Clone(l)
	c.Shuffle(len(l), func(i, j int) { l[i], l[j] = l[j], l[i] })
	return l
}

// scattered are so many keys from all over those that may be, rising.
func scattered(n int) words {
	c, seen := chance(uint64(n)), map[uint64]bool{}
	for len(seen) < n {
		seen[c.Uint64N(beyond)] = true
	}
	return slices.Sorted(maps.Keys(seen))
}

func ramp(n int) words {
	var out words
	for i := range n {
		out = append(out, uint64(i))
	}
	return out
}

// image is the words of unlike keys, in whatever order, made in another way than in the table's order: each takes the slot of the first one that it goes Before, and that one goes on.
func image(n int, keys words) words {
	w := make(words, 1+2*n)
	w[0] = uint64(len(keys))
	for _, k := range keys {
		r := k + 1
		for at := mix.Slot(r, 2*n); r != 0; at = (at + 1) % (2 * n) {
			if there := w[1+at]; there == 0 || mix.Before(r, there) {
				w[1+at], r = r, there
			}
		}
	}
	return w
}

// model is a set made in another way: by a map that is gone through.
type model struct {
	room int
	held map[uint64]bool
}

func modelOf(n int, keys words) model {
	m := model{n, map[uint64]bool{}}
	for _, k := range keys {
		m.held[k] = true
	}
	return m
}

func (m model) keys() words { return slices.Sorted(maps.Keys(m.held)) }

func (m model) do(op api.Op) api.Resp {
	is := m.held[op.Key]
	switch {
	case op.Code < 5 || op.Code > 9, op.Code != 9 && op.Key > 1<<62:
		return fails(10)
	case op.Code == 9:
		return told(uint64(len(m.held)))
	case op.Code == 5 && is:
		return told(1)
	case op.Code == 5, op.Code == 6 && is:
		return told(0)
	case op.Code == 6 && len(m.held) == m.room:
		return fails(11)
	case op.Code == 6:
		m.held[op.Key] = true
		return told(1)
	case op.Code == 8:
		return m.next(op.Key, op.Val != 0)
	case !is:
		return fails(12)
	}
	delete(m.held, op.Key)
	return told(0)
}

func (m model) next(key uint64, behind bool) api.Resp {
	best := uint64(greatest)
	for k := range m.held {
		if k < best && (k > key || k == key && !behind) {
			best = k
		}
	}
	if best == greatest {
		return fails(12)
	}
	return told(best)
}

type sample struct {
	n    int
	keys words // rising
}

func samples() []sample {
	out := []sample{
		{1, nil}, {1, words{0}}, {1, words{1}}, {1, words{7}}, {1, words{api.MaxKey}}, {2, nil}, {2, words{5}}, {2, words{0, api.MaxKey}},
		{3, nil}, {3, words{0}}, {3, words{5}}, {3, words{0, 1}}, {3, words{3, api.MaxKey}}, {3, words{0, 1, 2}}, {3, words{0, 9, api.MaxKey}}, {3, words{5, 6, 7}},
	}
	for _, n := range []int{2, 5, 16, 40, 255, 256} {
		for _, held := range []int{n / 2, n - 1, n} {
			out = append(out, sample{n, ramp(held)}, sample{n, scattered(held)})
		}
	}
	return out
}

// written are sets and their words, written out.
var written = []struct {
	sample
	w words
}{
	{sample{1, nil}, words{0, 0, 0}},
	{sample{3, words{5, 6, 7}}, words{3, 7, 0, 0, 0, 8, 6}}, // all from slot 4 on: 8 goes Before 6, and 6 Before 7
	{sample{3, words{5, 6}}, words{2, 0, 0, 0, 0, 6, 7}},    // 7 taken out
	{sample{3, words{0, 7, api.MaxKey}}, words{3, 0, 1, 0, 0, 8, api.MaxKey + 1}},
}

func TestWritten(t *testing.T) {
	for _, x := range written {
		if w, e := sets.Of(conf(x.n), x.keys...); e != api.OK || !slices.Equal(w, x.w) {
			t.Error("of", x, w, e)
		}
		if l, e := sets.Keys(conf(x.n), x.w); e != api.OK || !slices.Equal(l, x.keys) {
			t.Error("keys", x, l, e)
		}
	}
	w, r, e := sets.Apply(conf(3), words{3, 7, 0, 0, 0, 8, 6}, api.Op{Code: api.OpDel, Key: 7})
	if e != api.OK || r != told(0) || !slices.Equal(w, words{2, 0, 0, 0, 0, 6, 7}) {
		t.Error("del", w, r, e)
	}
	w, r, e = sets.Apply(conf(3), words{2, 0, 0, 0, 0, 6, 7}, api.Op{Code: api.OpAdd, Key: 7})
	if e != api.OK || r != told(1) || !slices.Equal(w, words{3, 7, 0, 0, 0, 8, 6}) {
		t.Error("add", w, r, e)
	}
}

func TestExamples(t *testing.T) {
	for _, n := range []int{1, 2, 100, 256} {
		if w, e := sets.Of(conf(n)); e != api.OK || !slices.Equal(w, make(words, 1+2*n)) {
			t.Error("of none", n, w, e)
		}
	}
	one, e := sets.Of(conf(1), 5)
	two, f := sets.Of(conf(1), 5, 5)
	if e != api.OK || f != api.OK || !slices.Equal(one, two) || !slices.Equal(one, image(1, words{5})) {
		t.Error("5 and 5", one, e, two, f)
	}
	if w, e := sets.Of(conf(1), 5, 6); e != api.ErrFull || len(w) != 0 {
		t.Error("5 and 6", w, e)
	}
}

// K1: the words are those of chapter 10, and the keys come out of them again, rising.
func TestOfAndKeys(t *testing.T) {
	for i, x := range samples() {
		state := api.State{Keys: x.keys}
		for _, procs := range []int{1, 2, 16} { // they count for nothing
			c := api.Conf{Kind: api.Set, Procs: procs, Cap: x.n}
			want, e := enc.Enc(c, state)
			if e != api.OK || !slices.Equal(want, image(x.n, x.keys)) {
				t.Fatal("enc", c, x.keys, want, e)
			}
			handed := shuffled(chance(uint64(i)), slices.Concat(x.keys, x.keys[len(x.keys)/2:], x.keys))
			if w, e := sets.Of(c, handed...); e != api.OK || !slices.Equal(w, want) {
				t.Fatal("of", c, handed, w, e)
			}
			if l, e := sets.Keys(c, want); e != api.OK || !slices.Equal(l, x.keys) {
				t.Fatal("keys", c, x.keys, l, e)
			}
		}
	}
}

func TestOfEachRoom(t *testing.T) {
	for n := 1; n <= api.MaxCap; n++ {
		l := scattered(n + 1)
		full, most := l[:n], slices.Repeat(l, 3)
		if w, e := sets.Of(conf(n), slices.Concat(full, full)...); e != api.OK || !slices.Equal(w, image(n, full)) {
			t.Fatal("full", n, w, e)
		}
		if w, e := sets.Of(conf(n), l...); e != api.ErrFull || len(w) != 0 {
			t.Fatal("one too many", n, w, e)
		}
		if w, e := sets.Of(conf(n), most...); e != api.ErrFull || len(w) != 0 {
			t.Fatal("each thrice", n, w, e)
		}
		if w, e := sets.Of(conf(n), slices.Repeat(words{uint64(n)}, 2000)...); e != api.OK || !slices.Equal(w, image(n, words{uint64(n)})) {
			t.Fatal("one, often", n, w, e)
		}
	}
	if w, e := sets.Of(conf(256), ramp(100000)...); e != api.ErrFull || len(w) != 0 {
		t.Error("far too many", w, e)
	}
}

func TestOfRefusesKeys(t *testing.T) {
	for _, k := range (words{beyond, beyond + 1, beyond + 5, 1<<62 + 1<<61, sign - 1, sign, sign + 5, greatest - 1, greatest}) {
		// Where there are too many as well, the key is what is told.
		for _, l := range []words{{k}, {k, k}, {k, 1}, {1, k}, {1, 2, k}, {k, 1, 2}, {1, k, 2, 3, 4}, {1, 2, 3, 4, k}, append(ramp(1000), k)} {
			if w, e := sets.Of(conf(2), l...); e != api.ErrArg || len(w) != 0 {
				t.Error(l, w, e)
			}
		}
	}
	if w, e := sets.Of(conf(2), api.MaxKey, 0, api.MaxKey); e != api.OK || !slices.Equal(w, image(2, words{0, api.MaxKey})) {
		t.Error("the greatest one", w, e)
	}
}

// A configuration is looked at ahead of all else.
func TestOthers(t *testing.T) {
	for _, c := range others {
		for _, l := range []words{nil, {0}, {1, 1}, {beyond}, {1, 2, 3, greatest}, ramp(300)} {
			if w, e := sets.Of(c, l...); e != api.ErrConfig || len(w) != 0 {
				t.Error("of", c, l, w, e)
			}
		}
		for _, n := range []int{0, 1, 3, 5, 6, 9, 10, 1 + 2*256, 1 + 2*257, 1 + 4*256, 2 + 4*256, 9 + 256} {
			for _, first := range (words{0, 1, greatest}) {
				unsuited(t, c, append(words{first}, make(words, n)...)[:n], api.ErrConfig)
			}
		}
		unsuited(t, c, image(1, words{5}), api.ErrConfig)
		unsuited(t, c, image(256, ramp(256)), api.ErrConfig)
		if s, e := auto.New(c); e == api.OK {
			w, _ := enc.Enc(c, s)
			unsuited(t, c, w, api.ErrConfig)
		}
	}
}

// unsuited asks that Keys and Apply tell that error, and nothing else, of calls that may be and others.
func unsuited(t *testing.T, c api.Conf, w words, want api.Errno) {
	t.Helper()
	if l, e := sets.Keys(c, w); e != want || len(l) != 0 {
		t.Fatal("keys", c, w, l, e)
	}
	for _, op := range []api.Op{{}, {Code: api.OpHas, Key: 5}, {Code: api.OpAdd, Key: 5}, {Code: api.OpDel, Key: 5}, {Code: api.OpNext}, {Code: api.OpCount}, {Code: api.OpAdd, Key: greatest}, {Code: math.MinInt}} {
		if next, r, e := sets.Apply(c, w, op); e != want || r != (api.Resp{}) || len(next) != 0 {
			t.Fatal("apply", c, w, op, next, r, e)
		}
	}
}

func unformed(t *testing.T, n int, w words) {
	t.Helper()
	unsuited(t, conf(n), w, api.ErrForm)
}

func TestForms(t *testing.T) {
	for n, l := range map[int][]words{
		1: {{0, 1, 0}, {0, 0, 1}, {1, 0, 0}, {1, 7, 7}, {2, 7, 7}, {2, 1, 2}, {2, 2, 1}, {1, 1, 2}, {2, 0, 0}, {greatest, 0, 0}, {1, beyond + 1, 0}, {1, 0, beyond + 1}, {1, greatest, 0}, {1, 0, greatest}, {0, greatest, greatest}},
		3: {
			{3, 7, 0, 0, 0, 6, 8}, {3, 6, 0, 0, 0, 8, 7}, {3, 0, 7, 0, 0, 8, 6}, {2, 7, 0, 0, 0, 8, 6}, {4, 7, 0, 0, 0, 8, 6}, {0, 7, 0, 0, 0, 8, 6}, {1<<32 | 3, 7, 0, 0, 0, 8, 6}, {sign | 3, 7, 0, 0, 0, 8, 6},
			{3, 7, 0, 0, 0, 8, 8}, {2, 7, 0, 0, 0, 8, 8}, {3, 8, 0, 0, 0, 8, 6}, {3, 0, 0, 0, 0, 0, 0}, {1, 0, 0, 0, 0, 0, 0}, {6, 1, 2, 3, 4, 5, 6},
		},
	} {
		for _, w := range l {
			unformed(t, n, w)
		}
	}
	for _, x := range samples() {
		w := image(x.n, x.keys)
		unformed(t, x.n, nil)
		unformed(t, x.n, w[:len(w)-1])
		unformed(t, x.n, w[1:])
		unformed(t, x.n, append(words{0}, w...))
		unformed(t, x.n, append(slices.Clone(w), 0))
		unformed(t, x.n, append(slices.Clone(w), make(words, len(w))...))
		unformed(t, x.n, make(words, 1<<12))
	}
}

// A table that is well, of keys of which there are too many, or that are too great, is no Set's.
func TestTablesOfNoSet(t *testing.T) {
	for _, n := range []int{1, 2, 3, 16, 255, 256} {
		for _, held := range []int{n + 1, 2*n - 1, 2 * n} {
			if held <= n {
				continue
			}
			for _, l := range []words{ramp(held), scattered(held)} {
				w := image(n, l)
				unformed(t, n, w)
				w[0] = uint64(n)
				unformed(t, n, w)
				w[0] = 0
				unformed(t, n, w)
			}
		}
		for _, k := range (words{beyond, beyond + 1, sign, greatest - 1}) {
			unformed(t, n, image(n, words{k}))
			unformed(t, n, image(n, append(ramp(n-1), k)))
		}
		unformed(t, n, image(n+1, ramp(n)))
	}
}

func text(w words) string {
	var out []byte
	for _, v := range w {
		out = append(strconv.AppendUint(out, v, 36), ' ')
	}
	return string(out)
}

// choices tells all lists of so many of these words.
func choices(n int, of words, tell func(words)) {
	w := make(words, n)
	var from func(int)
	from = func(i int) {
		if i == n {
			tell(w)
			return
		}
		for _, v := range of {
			w[i] = v
			from(i + 1)
		}
	}
	from(0)
}

// subsets are all sets of some of the keys, at most so many; the keys rise.
func subsets(most int, keys ...uint64) []words {
	out := []words{nil}
	for _, k := range keys {
		for _, l := range slices.Clone(out) {
			if len(l) < most {
				out = append(out, append(slices.Clone(l), k))
			}
		}
	}
	return out
}

// Of all words of small sets those that are one's are taken, and no others.
func TestAllSmallWords(t *testing.T) {
	for _, x := range []struct {
		n        int
		of, keys words
	}{
		{1, words{0, 1, 2, 3, 4, beyond, beyond + 1, greatest}, words{0, 1, 2, 3, api.MaxKey}},
		{2, words{0, 1, 2, 3, beyond, beyond + 1, greatest}, words{0, 1, 2, api.MaxKey}},
		{3, words{0, 1, 2, 3}, words{0, 1, 2}},
	} {
		whose := map[string]words{}
		for _, l := range subsets(x.n, x.keys...) {
			whose[text(image(x.n, l))] = l
		}
		met := 0
		choices(1+2*x.n, x.of, func(w words) {
			want, is := whose[text(w)]
			l, e := sets.Keys(conf(x.n), w)
			next, r, f := sets.Apply(conf(x.n), w, api.Op{Code: api.OpCount})
			if !is && (e != api.ErrForm || f != api.ErrForm || len(l)+len(next) != 0 || r != (api.Resp{})) {
				t.Fatal("taken", x.n, w, l, e, next, r, f)
			}
			if !is {
				return
			}
			met++
			if e != api.OK || f != api.OK || !slices.Equal(l, want) || !slices.Equal(next, w) || r != told(uint64(len(want))) {
				t.Fatal("refused", x.n, w, l, e, next, r, f)
			}
		})
		if met != len(whose) || met < 6 {
			t.Error(x.n, met, "of", len(whose))
		}
	}
}

// Words of which one is turned, or two are swapped, are taken where chapter 10 takes them.
func TestTurned(t *testing.T) {
	c := chance(5)
	for _, x := range samples() {
		w := image(x.n, x.keys)
		for range 60 {
			again := slices.Clone(w)
			i, j := c.IntN(len(w)), c.IntN(len(w))
			switch was := again[i]; c.IntN(4) {
			case 0:
				again[i], again[j] = again[j], was
			case 1:
				again[i] = was + c.Uint64N(3) - 1
			case 2:
				again[i] = was ^ 1<<c.UintN(64)
			case 3:
				again[i] = w[j]
			}
			s, want := enc.Dec(conf(x.n), again)
			if l, e := sets.Keys(conf(x.n), again); e != want || !slices.Equal(l, s.Keys) {
				t.Fatal("keys", x, again, l, e, want)
			}
			if next, r, e := sets.Apply(conf(x.n), again, api.Op{Code: api.OpCount}); e != want || r != told(uint64(len(s.Keys))) || e == api.OK && !slices.Equal(next, again) {
				t.Fatal("apply", x, again, next, r, e, want)
			}
		}
	}
}

// agrees asks that a call of a set does, and tells, what the model's and chapter 9's do; it tells the words that are then.
func agrees(t *testing.T, c api.Conf, w words, m model, op api.Op) words {
	t.Helper()
	state, wantResp, e := auto.Do(c, api.State{Keys: m.keys()}, op)
	wantWords, f := enc.Enc(c, state)
	if r := m.do(op); e != api.OK || f != api.OK || r != wantResp || !slices.Equal(wantWords, image(c.Cap, m.keys())) {
		t.Fatal("the model", c, w, op, r, wantResp, e, f)
	}
	next, r, e := sets.Apply(c, w, op)
	if e != api.OK || r != wantResp || !slices.Equal(next, wantWords) {
		t.Fatal(c, w, op, next, r, e)
	}
	return next
}

// K2: all calls, over some sets.
func TestApply(t *testing.T) {
	for _, x := range samples() {
		if x.n > 5 {
			continue
		}
		w := image(x.n, x.keys)
		for _, code := range codes {
			for _, k := range someKeys {
				for _, v := range someVals {
					agrees(t, conf(x.n), w, modelOf(x.n, x.keys), api.Op{Code: code, Key: k, Val: v})
				}
			}
		}
	}
}

func TestApplyToLargeOnes(t *testing.T) {
	for _, x := range samples() {
		if x.n <= 5 {
			continue
		}
		w, near := image(x.n, x.keys), words{0, beyond, greatest, sign, api.MaxKey}
		for i := 0; i < len(x.keys); i += 1 + len(x.keys)/4 {
			near = append(near, x.keys[i], x.keys[i]+1, x.keys[i]-1)
		}
		for _, k := range near {
			for code := api.OpSum; code <= api.OpGet; code++ {
				for v := range uint64(2) {
					agrees(t, conf(x.n), w, modelOf(x.n, x.keys), api.Op{Code: code, Key: k, Val: v})
				}
			}
		}
	}
}

// What each call of a set with 5 and 7 tells, and leaves, written out.
func TestApplyWritten(t *testing.T) {
	for _, x := range []struct {
		n    int
		op   api.Op
		r    api.Resp
		then words
	}{
		{3, api.Op{Code: api.OpHas, Key: 5}, told(1), words{5, 7}},
		{3, api.Op{Code: api.OpHas, Key: 6}, told(0), words{5, 7}},
		{3, api.Op{Code: api.OpHas, Key: api.MaxKey}, told(0), words{5, 7}},
		{3, api.Op{Code: api.OpHas, Key: beyond}, fails(api.ErrBadOp), words{5, 7}},
		{3, api.Op{Code: api.OpAdd, Key: 6, Val: 9}, told(1), words{5, 6, 7}},
		{3, api.Op{Code: api.OpAdd, Key: 0}, told(1), words{0, 5, 7}},
		{3, api.Op{Code: api.OpAdd, Key: api.MaxKey}, told(1), words{5, 7, api.MaxKey}},
		{3, api.Op{Code: api.OpAdd, Key: 7}, told(0), words{5, 7}},
		{2, api.Op{Code: api.OpAdd, Key: 7}, told(0), words{5, 7}},
		{2, api.Op{Code: api.OpAdd, Key: 6}, fails(api.ErrFull), words{5, 7}},
		{2, api.Op{Code: api.OpAdd, Key: beyond}, fails(api.ErrBadOp), words{5, 7}},
		{3, api.Op{Code: api.OpDel, Key: 5, Val: 9}, told(0), words{7}},
		{2, api.Op{Code: api.OpDel, Key: 7}, told(0), words{5}},
		{3, api.Op{Code: api.OpDel, Key: 6}, fails(api.ErrNone), words{5, 7}},
		{3, api.Op{Code: api.OpDel, Key: greatest}, fails(api.ErrBadOp), words{5, 7}},
		{3, api.Op{Code: api.OpNext}, told(5), words{5, 7}},
		{3, api.Op{Code: api.OpNext, Val: 1}, told(5), words{5, 7}},
		{3, api.Op{Code: api.OpNext, Key: 5}, told(5), words{5, 7}},
		{3, api.Op{Code: api.OpNext, Key: 5, Val: 1}, told(7), words{5, 7}},
		{3, api.Op{Code: api.OpNext, Key: 5, Val: sign}, told(7), words{5, 7}},
		{3, api.Op{Code: api.OpNext, Key: 6, Val: 1}, told(7), words{5, 7}},
		{3, api.Op{Code: api.OpNext, Key: 7, Val: 1}, fails(api.ErrNone), words{5, 7}},
		{3, api.Op{Code: api.OpNext, Key: 8}, fails(api.ErrNone), words{5, 7}},
		{3, api.Op{Code: api.OpNext, Key: beyond}, fails(api.ErrBadOp), words{5, 7}},
		{3, api.Op{Code: api.OpCount}, told(2), words{5, 7}},
		{3, api.Op{Code: api.OpCount, Key: greatest, Val: 3}, told(2), words{5, 7}}, // it speaks of no key
		{3, api.Op{}, fails(api.ErrBadOp), words{5, 7}},
		{3, api.Op{Code: api.OpSum, Key: 5}, fails(api.ErrBadOp), words{5, 7}},
		{3, api.Op{Code: api.OpGet, Key: 5}, fails(api.ErrBadOp), words{5, 7}},
		{3, api.Op{Code: api.OpPut, Key: 6}, fails(api.ErrBadOp), words{5, 7}},
		{3, api.Op{Code: api.OpClosed}, fails(api.ErrBadOp), words{5, 7}},
		{3, api.Op{Code: -api.OpHas, Key: 5}, fails(api.ErrBadOp), words{5, 7}},
	} {
		w, r, e := sets.Apply(conf(x.n), image(x.n, words{5, 7}), x.op)
		if e != api.OK || r != x.r || !slices.Equal(w, image(x.n, x.then)) {
			t.Error(x, w, r, e)
		}
	}
}

// All calls of small sets, each from each.
func TestSmallSets(t *testing.T) {
	for n := 1; n <= 3; n++ {
		for _, l := range subsets(n, 0, 1, 2, 4, api.MaxKey) {
			for code := api.OpSum; code <= api.OpGet; code++ {
				for _, k := range (words{0, 1, 2, 3, 4, 5, api.MaxKey - 1, api.MaxKey, beyond}) {
					for v := range uint64(2) {
						agrees(t, conf(n), image(n, l), modelOf(n, l), api.Op{Code: code, Key: k, Val: v})
					}
				}
			}
		}
	}
}

func TestLongRuns(t *testing.T) {
	c := chance(3)
	for _, n := range []int{1, 2, 3, 7, 40, 256} {
		w, m := image(n, nil), modelOf(n, nil)
		for i := range 1500 {
			op := api.Op{Code: api.OpAdd + c.IntN(2), Key: c.Uint64N(uint64(2*n + 1)), Val: c.Uint64N(2)}
			if i%4 == 0 {
				op.Code = api.OpSum + c.IntN(7)
			}
			if i < 500 && op.Code == api.OpDel { // till it is full
				op.Code = api.OpAdd
			}
			w = agrees(t, conf(n), w, m, op)
			if l, e := sets.Keys(conf(n), w); e != api.OK || !slices.Equal(l, m.keys()) {
				t.Fatal("keys", n, w, l, e)
			}
		}
	}
}

// orders tells all orders of the words.
func orders(l words, tell func(words)) {
	var from func(int)
	from = func(i int) {
		if i == len(l) {
			tell(l)
			return
		}
		for j := i; j < len(l); j++ {
			l[i], l[j] = l[j], l[i]
			from(i + 1)
			l[i], l[j] = l[j], l[i]
		}
	}
	from(0)
}

// put applies calls with these keys, one behind the other; none of them may be refused.
func put(t *testing.T, n int, w words, code int, keys ...uint64) words {
	t.Helper()
	for _, k := range keys {
		next, r, e := sets.Apply(conf(n), w, api.Op{Code: code, Key: k})
		if e != api.OK || r.Errno != api.OK {
			t.Fatal(n, w, code, k, r, e)
		}
		w = next
	}
	return w
}

// K3: in whatever order keys are put.
func TestAllOrders(t *testing.T) {
	for _, l := range []words{{5, 6}, {5, 6, 7}, {0, 5, 6, 7}, {3, 5, 6, 7, api.MaxKey}, {0, 1, 2, 3, 4, 1 << 40}} {
		for _, n := range []int{len(l), len(l) + 1, 2 * len(l)} {
			want := image(n, l)
			orders(slices.Clone(l), func(keys words) {
				if w := put(t, n, make(words, 1+2*n), api.OpAdd, keys...); !slices.Equal(w, want) {
					t.Fatal("put", n, keys, w)
				}
				if w, e := sets.Of(conf(n), keys...); e != api.OK || !slices.Equal(w, want) {
					t.Fatal("of", n, keys, w, e)
				}
			})
		}
	}
}

// K3: whatever was put and taken out between, and in whatever order.
func TestNoTrace(t *testing.T) {
	c := chance(11)
	for _, n := range []int{2, 3, 4, 16, 256} {
		all := scattered(n)
		for range 10 {
			l := shuffled(c, all)
			stay, go1, go2 := l[:n/2], l[n/2:n*3/4], l[n*3/4:]
			want := image(n, stay)
			ways := []words{put(t, n, put(t, n, make(words, 1+2*n), api.OpAdd, l...), api.OpDel, shuffled(c, l[n/2:])...)}
			w := put(t, n, make(words, 1+2*n), api.OpAdd, append(slices.Clone(go1), go2...)...)
			w = put(t, n, w, api.OpDel, go1...)
			w = put(t, n, w, api.OpAdd, append(shuffled(c, stay), stay...)...) // twice: 0 is told then
			ways = append(ways, put(t, n, w, api.OpDel, shuffled(c, go2)...))
			w = put(t, n, want, api.OpDel, stay...)
			if !slices.Equal(w, make(words, 1+2*n)) {
				t.Fatal("all taken out", n, w)
			}
			ways = append(ways, put(t, n, w, api.OpAdd, shuffled(c, stay)...))
			for i, w := range ways {
				if !slices.Equal(w, want) {
					t.Fatal(i, n, l, w)
				}
			}
		}
	}
}

// Two sets that were come by in other ways are the same, if they have the same keys, and are others, if not.
func TestTheorem(t *testing.T) {
	c := chance(17)
	whose := map[string]string{}
	by := map[string]string{}
	for range 3000 {
		w, m := image(3, nil), modelOf(3, nil)
		for range 1 + c.IntN(12) {
			op := api.Op{Code: api.OpAdd + c.IntN(2), Key: c.Uint64N(6)}
			m.do(op)
			w, _, _ = sets.Apply(conf(3), w, op)
		}
		keys, is := text(m.keys()), text(w)
		if one, met := whose[is]; met && one != keys {
			t.Fatal("two sets, the same words", one, keys, w)
		}
		if one, met := by[keys]; met && one != is {
			t.Fatal("a set in two ways", keys, one, is)
		}
		whose[is], by[keys] = keys, is
	}
	if len(by) != 42 { // of 6 keys 0, 1, 2 or 3
		t.Error(len(by))
	}
}

// The second one of the document's examples of the whole.
func TestTwoSets(t *testing.T) {
	one := put(t, 4, make(words, 9), api.OpAdd, 5, 6)
	two := put(t, 4, put(t, 4, make(words, 9), api.OpAdd, 6, 7, 5), api.OpDel, 7)
	if !slices.Equal(one, two) || !slices.Equal(one, image(4, words{5, 6})) {
		t.Error(one, two)
	}
}

// roomy has the same words, and room behind them in which other ones stand.
func roomy(l words) words { return append(slices.Clone(l), 77, 77, 77)[:len(l)] }

func intact(l, want words) bool {
	return slices.Equal(l, want) && slices.Equal(l[len(l):len(l)+3], words{77, 77, 77})
}

func spoil(l words) {
	l = l[:cap(l)]
	for i := range l {
		l[i] = 0xbad
	}
}

var allCalls = []api.Op{
	{Code: api.OpHas, Key: 5}, {Code: api.OpAdd, Key: 5}, {Code: api.OpAdd, Key: 6}, {Code: api.OpAdd, Key: 1 << 50}, {Code: api.OpAdd, Key: greatest}, {Code: api.OpDel, Key: 5}, {Code: api.OpDel, Key: 0},
	{Code: api.OpNext, Val: 1}, {Code: api.OpNext, Key: api.MaxKey, Val: 1}, {Code: api.OpCount}, {Code: api.OpPut}, {},
}

func TestNothingHandedInIsWrittenInto(t *testing.T) {
	for i, x := range samples() {
		keys := slices.Concat(x.keys, x.keys)
		slices.Reverse(keys)
		for _, l := range []words{keys, shuffled(chance(uint64(i)), keys), append(slices.Clone(keys), beyond), append(ramp(300), keys...)} {
			hand := roomy(l)
			sets.Of(conf(x.n), hand...)
			sets.Of(others[0], hand...)
			if !intact(hand, l) {
				t.Error("of", x, l)
			}
		}
		image := image(x.n, x.keys)
		wrong := slices.Clone(image)
		wrong[len(wrong)-1] += 9
		for _, w := range []words{image, wrong, image[1:], nil} {
			hand := roomy(w)
			sets.Keys(conf(x.n), hand)
			sets.Keys(others[0], hand)
			for _, op := range allCalls {
				sets.Apply(conf(x.n), hand, op)
			}
			if !intact(hand, w) {
				t.Error("words", x, w)
			}
		}
	}
}

func TestAnswersShareNothing(t *testing.T) {
	for _, x := range samples() {
		handed := slices.Clone(x.keys)
		w, _ := sets.Of(conf(x.n), handed...)
		again, _ := sets.Of(conf(x.n), handed...)
		spoil(again)
		l, _ := sets.Keys(conf(x.n), w)
		other, _ := sets.Keys(conf(x.n), w)
		spoil(other)
		if !slices.Equal(handed, x.keys) || !slices.Equal(w, image(x.n, x.keys)) || !slices.Equal(l, x.keys) {
			t.Error("of and keys", x, w, l)
		}
		for _, op := range allCalls {
			one, _, _ := sets.Apply(conf(x.n), w, op)
			two, _, _ := sets.Apply(conf(x.n), w, op)
			want := slices.Clone(two)
			spoil(one)
			if !slices.Equal(two, want) || !slices.Equal(w, image(x.n, x.keys)) {
				t.Fatal("apply", x, op, w, two)
			}
		}
		two, _, _ := sets.Apply(conf(x.n), w, api.Op{Code: api.OpCount})
		spoil(w)
		spoil(handed)
		if !slices.Equal(two, image(x.n, x.keys)) || !slices.Equal(l, x.keys) {
			t.Error("kept", x, two, l)
		}
	}
}

// Whatever is handed in, each call ends, and tells an error that it may.
func TestWhateverIsHandedIn(t *testing.T) {
	c := chance(23)
	anyConf := func() api.Conf {
		if c.IntN(3) == 0 {
			return others[c.IntN(len(others))]
		}
		return api.Conf{Kind: api.Set, Procs: 1 + c.IntN(16), Cap: 1 + c.IntN(6)}
	}
	anyWords := func() words {
		out := make(words, c.IntN(14))
		for i := range out {
			if c.IntN(3) == 0 {
				out[i] = someKeys[c.IntN(len(someKeys))]
			}
		}
		return out
	}
	for range 20000 {
		cf, w, op := anyConf(), anyWords(), api.Op{Code: codes[c.IntN(len(codes))], Key: someKeys[c.IntN(len(someKeys))], Val: someVals[c.IntN(len(someVals))]}
		of, e := sets.Of(cf, w...)
		isOne := auto.Right(cf, api.State{}) && cf.Kind == api.Set
		state := api.State{Keys: rising(w)}
		switch {
		case !isOne:
			if e != api.ErrConfig || len(of) != 0 {
				t.Fatal("of", cf, w, of, e)
			}
		case auto.Right(cf, state):
			if want, _ := enc.Enc(cf, state); e != api.OK || !slices.Equal(of, want) {
				t.Fatal("of", cf, w, of, e)
			}
		case e != api.ErrArg && e != api.ErrFull || len(of) != 0:
			t.Fatal("of", cf, w, of, e)
		}
		held, want := enc.Dec(cf, w)
		if !isOne {
			held, want = api.State{}, api.ErrConfig
		}
		if l, e := sets.Keys(cf, w); e != want || !slices.Equal(l, held.Keys) {
			t.Fatal("keys", cf, w, l, e)
		}
		if want != api.OK {
			if next, r, e := sets.Apply(cf, w, op); e != want || len(next) != 0 || r != (api.Resp{}) {
				t.Fatal("apply", cf, w, op, next, r, e)
			}
			continue
		}
		agrees(t, cf, w, modelOf(cf.Cap, held.Keys), op)
	}
}

// What is answered hangs on what is asked alone, whoever asks at the same time.
func TestSameForTheSame(t *testing.T) {
	var all sync.WaitGroup
	l := samples()
	for range 4 {
		all.Go(func() {
			for _, x := range l {
				w, e := sets.Of(conf(x.n), x.keys...)
				if e != api.OK || !slices.Equal(w, image(x.n, x.keys)) {
					t.Error("of", x)
				}
				if keys, e := sets.Keys(conf(x.n), w); e != api.OK || !slices.Equal(keys, x.keys) {
					t.Error("keys", x)
				}
				for _, op := range allCalls {
					m := modelOf(x.n, x.keys)
					r := m.do(op)
					if next, got, e := sets.Apply(conf(x.n), w, op); e != api.OK || got != r || !slices.Equal(next, image(x.n, m.keys())) {
						t.Error("apply", x, op)
					}
				}
			}
		})
	}
	all.Wait()
}

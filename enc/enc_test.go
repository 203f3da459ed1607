package enc_test

import (
	"math"
	"math/rand/v2"
	"slices"
	"strconv"
	"sync"
	"testing"

	"whitewash/api"
	"whitewash/auto"
	"whitewash/enc"
	"whitewash/mix"
	"whitewash/region"
)

type words = []uint64

const (
	greatest  = math.MaxUint64
	minusZero = uint64(1 << 63)
	otherNaN  = uint64(0xfff8000000000000)
)

// Ranks of floats, and of none, written out.
const (
	ofNegInf    = uint64(0x000fffffffffffff)
	ofMinusOne  = uint64(0x400fffffffffffff)
	ofMinusZero = uint64(0x7fffffffffffffff) // nobody's
	ofZero      = uint64(0x8000000000000000)
	ofOne       = uint64(0xbff0000000000000)
	ofInf       = uint64(0xfff0000000000000)
	ofNaN       = uint64(0xfff8000000000001)
)

var (
	allKinds = []int{api.Register, api.Set, api.Dict, api.Order, api.Ballot}
	misfits  = []api.Conf{
		{}, {Kind: 0, Procs: 1, Cap: 1}, {Kind: 6, Procs: 1, Cap: 1}, {Kind: -1, Procs: 1, Cap: 1}, {Kind: math.MinInt, Procs: 1, Cap: 1}, {Kind: math.MaxInt, Procs: 1, Cap: 1},
		{Kind: 1, Procs: 0, Cap: 1}, {Kind: 1, Procs: 17, Cap: 1}, {Kind: 1, Procs: -1, Cap: 1}, {Kind: 1, Procs: 1, Cap: 0}, {Kind: 1, Procs: 1, Cap: 257},
		{Kind: 2, Procs: 0, Cap: 2}, {Kind: 2, Procs: 17, Cap: 2}, {Kind: 2, Procs: 1, Cap: 257}, {Kind: 2, Procs: 1, Cap: -1},
		{Kind: 3, Procs: 1, Cap: 0}, {Kind: 3, Procs: 1, Cap: math.MaxInt}, {Kind: 4, Procs: 1, Cap: 257}, {Kind: 4, Procs: math.MinInt, Cap: 1},
		{Kind: 5, Procs: 1, Cap: 0}, {Kind: 5, Procs: 1, Cap: 257}, {Kind: 5, Procs: 1, Cap: math.MinInt}, {Kind: 5, Procs: 17, Cap: 3},
	}
)

func word(f float64) uint64 { return math.Float64bits(f) }

func conf(kind, n int) api.Conf { return api.Conf{Kind: kind, Procs: 1, Cap: n} }

// chance is the same one each time.
func chance(seed uint64) *rand.Rand { return rand.New(rand.NewPCG(seed, 1)) }

func keysOnly(l ...uint64) api.State { return api.State{Keys: l} }

// pairs is a state of keys, a value behind each.
func pairs(l ...uint64) (s api.State) {
	for i := 0; i+1 < len(l); i += 2 {
		s.Keys, s.Vals = append(s.Keys, l[i]), append(s.Vals, l[i+1])
	}
	return s
}

func votes(closed bool, l ...int) api.State { return api.State{Votes: l, Closed: closed} }

func same(a, b api.State) bool {
	return a.Reg == b.Reg && slices.Equal(a.Keys, b.Keys) && slices.Equal(a.Vals, b.Vals) && slices.Equal(a.Votes, b.Votes) && a.Closed == b.Closed
}

func isNothing(s api.State) bool { return same(s, api.State{}) }

func rank(w uint64) uint64 {
	if math.Signbit(math.Float64frombits(w)) {
		return ^w
	}
	return w + ofZero
}

// displaced is a table, made in another way than in its order: each record takes the slot of the first one that it goes Before, and that one goes on.
func displaced(slots, width int, s api.State) words {
	t := make(words, slots*width)
	for i, k := range s.Keys {
		r := [2]uint64{k + 1}
		if width == 2 {
			r[1] = s.Vals[i]
		}
		for slot := mix.Slot(r[0], slots); ; slot = (slot + 1) % slots {
			there := t[slot*width:][:width]
			if there[0] != 0 && !mix.Before(r[0], there[0]) {
				continue
			}
			var next [2]uint64
			copy(next[:], there)
			copy(there, r[:])
			if next[0] == 0 {
				break
			}
			// on from where it was taken away
			r = next
		}
	}
	return t
}

// stacked is an Order's words, its tree made in another way than from its top: key by key, from the left to the right; each takes to its left what it goes Before.
func stacked(s api.State) words {
	out := words{uint64(len(s.Keys)), 0}
	var spine []int // the numbers down to the right
	at := func(number, far int) *uint64 { return &out[2+4*(number-1)+far] }
	for i, k := range s.Keys {
		out = append(out, rank(k), s.Vals[i], 0, 0)
		for len(spine) > 0 && mix.Before(rank(k), *at(spine[len(spine)-1], 0)) {
			*at(i+1, 2) = uint64(spine[len(spine)-1])
			spine = spine[:len(spine)-1]
		}
		if len(spine) > 0 {
			*at(spine[len(spine)-1], 3) = uint64(i + 1)
		}
		spine = append(spine, i+1)
	}
	if len(spine) > 0 {
		out[1] = uint64(spine[0])
	}
	return out
}

// image is a right state's words, written down in another way.
func image(c api.Conf, s api.State) words {
	keys := words{uint64(len(s.Keys))}
	switch c.Kind {
	case api.Register:
		return words{s.Reg}
	case api.Set:
		return append(keys, displaced(2*c.Cap, 1, s)...)
	case api.Dict:
		return append(keys, displaced(2*c.Cap, 2, s)...)
	case api.Order:
		return append(stacked(s), make(words, 4*(c.Cap-len(s.Keys)))...)
	}
	out := make(words, 1+c.Cap+8)
	if s.Closed {
		out[0] = 1
	}
	for i, v := range s.Votes {
		out[1+i] = uint64(v)
		if v != 0 {
			out[c.Cap+v]++
		}
	}
	return out
}

type sample struct {
	c api.Conf
	s api.State
}

// scattered are so many keys, rising, from all over those that may be.
func scattered(kind, n int) words {
	c, seen := chance(uint64(n+1000*kind)), map[uint64]bool{}
	var out words
	for len(out) < n {
		k := c.Uint64N(api.MaxKey + 1)
		if kind == api.Order {
			k = word(c.NormFloat64())
		}
		if !seen[k] {
			seen[k] = true
			out = append(out, k)
		}
	}
	return rising(kind, out)
}

func rising(kind int, l words) words {
	slices.SortFunc(l, func(a, b uint64) int {
		if kind == api.Order {
			a, b = rank(a), rank(b)
		}
		if a < b {
			return -1
		}
		return 1
	})
	return l
}

func ramp(n int) words {
	var out words
	for i := range n {
		out = append(out, uint64(i))
	}
	return out
}

func small() (out []sample) {
	add := func(kind, n int, l ...api.State) {
		for _, s := range l {
			out = append(out, sample{conf(kind, n), s})
		}
	}
	for _, w := range (words{0, 1, word(1), word(-1), word(2.5), api.Inf, api.NegInf, api.NaN, 1<<63 | 1, word(math.MaxFloat64), word(-math.MaxFloat64)}) {
		add(api.Register, 1, api.State{Reg: w})
		add(api.Register, 256, api.State{Reg: w})
	}
	add(api.Set, 1, keysOnly(), keysOnly(0), keysOnly(1), keysOnly(7), keysOnly(api.MaxKey))
	add(api.Set, 3, keysOnly(), keysOnly(0), keysOnly(5), keysOnly(0, 1), keysOnly(3, api.MaxKey), keysOnly(0, 1, 2), keysOnly(0, 9, api.MaxKey), keysOnly(5, 6, 7))
	add(api.Dict, 1, pairs(), pairs(0, 0), pairs(0, 1), pairs(7, 8), pairs(api.MaxKey, greatest))
	add(api.Dict, 3, pairs(), pairs(0, 0), pairs(5, 0), pairs(5, 6), pairs(0, 1, 1, 0), pairs(0, 0, 1, 0, 2, 0), pairs(0, 12, 9, 9, api.MaxKey, 5))
	add(api.Order, 1, pairs(), pairs(0, 0), pairs(0, 1), pairs(api.NegInf, 1), pairs(api.NaN, greatest))
	add(api.Order, 3, pairs(), pairs(word(-1), minusZero), pairs(0, otherNaN, 1, 5), pairs(api.NegInf, 0, 0, 0, api.NaN, 0), pairs(word(-2), 3, word(-1), 2, word(5), 1), pairs(api.Inf, 4, api.NaN, 4))
	add(api.Ballot, 1, votes(false, 0), votes(true, 0), votes(false, 8), votes(true, 1))
	add(api.Ballot, 3, votes(false, 0, 0, 0), votes(true, 1, 2, 3), votes(false, 8, 8, 0), votes(true, 0, 0, 4), votes(false, 4, 4, 4), votes(false, 0, 1, 8))
	return out
}

// large are states with all that there is room for, or nearly.
func large() (out []sample) {
	for _, n := range []int{2, 5, 16, 40, 255, 256} {
		for _, held := range []int{n - 1, n} {
			l, f := scattered(api.Set, held), scattered(api.Order, held)
			vals := make(words, held)
			for i := range vals {
				vals[i] = l[len(l)-1-i] * uint64(i)
			}
			out = append(out,
				sample{conf(api.Set, n), keysOnly(l...)}, sample{conf(api.Set, n), keysOnly(ramp(held)...)},
				sample{conf(api.Dict, n), api.State{Keys: l, Vals: vals}}, sample{conf(api.Dict, n), api.State{Keys: ramp(held), Vals: l}},
				sample{conf(api.Order, n), api.State{Keys: f, Vals: vals}}, sample{conf(api.Order, n), api.State{Keys: ramp(held), Vals: f}})
		}
		box := make([]int, n)
		for i := range box {
			box[i] = i * 7 % 9
		}
		all := slices.Repeat([]int{8}, n)
		out = append(out, sample{conf(api.Ballot, n), votes(true, box...)}, sample{conf(api.Ballot, n), votes(false, all...)}, sample{conf(api.Ballot, n), votes(true, all...)})
	}
	return out
}

func samples() []sample { return append(small(), large()...) }

// written are states and their words, written out.
var written = []struct {
	sample
	w words
}{
	{sample{api.Conf{Kind: api.Ballot, Procs: 1, Cap: 2}, votes(false, 0, 3)}, words{0, 0, 3, 0, 0, 1, 0, 0, 0, 0, 0}},
	{sample{conf(api.Ballot, 3), votes(true, 8, 1, 8)}, words{1, 8, 1, 8, 1, 0, 0, 0, 0, 0, 0, 2}},
	{sample{conf(api.Register, 9), api.State{Reg: api.NaN}}, words{api.NaN}},
	{sample{conf(api.Register, 256), api.State{Reg: word(-1)}}, words{0xbff0000000000000}},
	{sample{conf(api.Set, 3), keysOnly(5, 6, 7)}, words{3, 7, 0, 0, 0, 8, 6}}, // all from slot 4 on: 8 goes Before 6, and 6 Before 7
	{sample{conf(api.Set, 3), keysOnly(5, 6)}, words{2, 0, 0, 0, 0, 6, 7}},    // 7 taken out
	{sample{conf(api.Set, 3), keysOnly(0, 7, api.MaxKey)}, words{3, 0, 1, 0, 0, 8, api.MaxKey + 1}},
	{sample{conf(api.Dict, 2), pairs(4, 77, 5, 88)}, words{2, 6, 88, 5, 77, 0, 0, 0, 0}}, // both from slot 0 on
	{sample{conf(api.Dict, 2), pairs(0, 10, api.MaxKey, 20)}, words{2, 0, 0, 1, 10, api.MaxKey + 1, 20, 0, 0}},
	{sample{conf(api.Order, 1), pairs(word(-1), 9)}, words{1, 1, ofMinusOne, 9, 0, 0}},
	{sample{conf(api.Order, 3), pairs(word(-1), 9)}, words{1, 1, ofMinusOne, 9, 0, 0, 0, 0, 0, 0, 0, 0, 0, 0}},
	{sample{conf(api.Order, 5), pairs(api.NegInf, 8, word(-1), 0, 0, 6, word(1), minusZero, api.NaN, greatest)},
		words{5, 2, ofNegInf, 8, 0, 0, ofMinusOne, 0, 1, 5, ofZero, 6, 0, 0, ofOne, minusZero, 3, 0, ofNaN, greatest, 4, 0}},
}

func TestWritten(t *testing.T) {
	for _, x := range written {
		if w, e := enc.Enc(x.c, x.s); e != api.OK || !slices.Equal(w, x.w) {
			t.Error("enc", x, w, e)
		}
		if s, e := enc.Dec(x.c, x.w); e != api.OK || !same(s, x.s) {
			t.Error("dec", x, s, e)
		}
	}
}

func TestWords(t *testing.T) {
	for _, x := range samples() {
		for _, procs := range []int{1, 2, 16} { // they count for nothing
			c := api.Conf{Kind: x.c.Kind, Procs: procs, Cap: x.c.Cap}
			w, e := enc.Enc(c, x.s)
			if e != api.OK || len(w) != region.Home(c) || !slices.Equal(w, image(c, x.s)) {
				t.Fatal("enc", c, x.s, w, e)
			}
			if s, e := enc.Dec(c, w); e != api.OK || !same(s, x.s) || !auto.Right(c, s) {
				t.Fatal("dec", c, x.s, s, e)
			}
		}
	}
}

func TestMisfits(t *testing.T) {
	for _, c := range misfits {
		for _, s := range []api.State{{}, {Reg: 5}, {Reg: minusZero}, keysOnly(1), keysOnly(2, 1), pairs(1, 2), votes(false, 0), votes(true, 0, 0, 9), votes(true, make([]int, 257)...)} {
			if w, e := enc.Enc(c, s); e != api.ErrConfig || len(w) != 0 {
				t.Error("enc", c, s, w, e)
			}
		}
		for _, n := range []int{0, 1, 3, 5, 6, 10, 1 + 2*257, 1 + 4*257, 2 + 4*257, 9 + 257} {
			for _, first := range (words{0, 1, minusZero, greatest}) {
				w := append(words{first}, make(words, n)...)[:n]
				if s, e := enc.Dec(c, w); e != api.ErrConfig || !isNothing(s) {
					t.Error("dec", c, n, s, e)
				}
			}
		}
	}
}

func TestEncRefuses(t *testing.T) {
	for kind, l := range map[int][]api.State{
		api.Register: {{Reg: minusZero}, {Reg: otherNaN}, {Reg: api.NaN + 1}, {Reg: api.NaN - 1}, {Reg: greatest}, keysOnly(0), {Vals: words{0}}, pairs(0, 0), votes(false, 0), votes(true), votes(false, 0, 0, 0)},
		api.Set: {{Reg: 1}, keysOnly(1, 1), keysOnly(2, 1), keysOnly(0, 0), keysOnly(1, 3, 2), keysOnly(1, 2, 3, 4), keysOnly(api.MaxKey + 1), keysOnly(1, greatest), keysOnly(greatest), keysOnly(0, minusZero),
			{Vals: words{0}}, pairs(1, 0), votes(false, 0, 0, 0), votes(true), {Keys: words{1}, Closed: true}, {Keys: words{1}, Votes: []int{0}}, {Keys: words{1}, Reg: 1}},
		api.Dict: {{Reg: 1}, keysOnly(1), {Vals: words{1}}, {Keys: words{1, 2}, Vals: words{1}}, {Keys: words{1}, Vals: words{1, 2}}, pairs(1, 0, 1, 0), pairs(2, 0, 1, 0), pairs(1, 0, 2, 0, 3, 0, 4, 0),
			pairs(api.MaxKey+1, 0), pairs(0, 0, greatest, 0), votes(false, 0), votes(true), {Keys: words{1}, Vals: words{1}, Closed: true}, {Keys: words{1}, Vals: words{1}, Reg: 1}},
		api.Order: {{Reg: 1}, keysOnly(1), {Vals: words{1}}, {Keys: words{1, 2}, Vals: words{1}}, {Keys: words{1}, Vals: words{1, 2}}, pairs(1, 0, 1, 0), pairs(2, 0, 1, 0), pairs(1, 0, 2, 0, 3, 0, 4, 0),
			pairs(minusZero, 0), pairs(otherNaN, 0), pairs(greatest, 0), pairs(0, 0, word(-1), 0), pairs(word(-1), 0, word(-2), 0), pairs(api.NaN, 0, api.Inf, 0), votes(false, 0), votes(true), {Keys: words{1}, Vals: words{1}, Reg: 1}},
		api.Ballot: {{}, {Closed: true}, votes(false, 0), votes(false, 0, 0), votes(false, 0, 0, 0, 0), votes(false, 0, 9, 0), votes(true, 0, 0, -1), votes(true, math.MinInt, 0, 0), votes(true, 0, math.MaxInt, 0), votes(true, 0, 0, 1<<32),
			{Reg: 1, Votes: []int{0, 0, 0}}, {Keys: words{1}, Votes: []int{0, 0, 0}}, {Vals: words{1}, Votes: []int{0, 0, 0}}},
	} {
		for _, s := range l {
			if w, e := enc.Enc(conf(kind, 3), s); e != api.ErrArg || len(w) != 0 {
				t.Error(kind, s, w, e)
			}
		}
	}
	for _, x := range large() { // one more than there is room for
		less := api.Conf{Kind: x.c.Kind, Procs: 1, Cap: max(len(x.s.Keys), len(x.s.Votes)) - 1}
		if w, e := enc.Enc(less, x.s); less.Cap > 0 && (e != api.ErrArg || len(w) != 0) {
			t.Error(less, w, e)
		}
	}
}

func refused(t *testing.T, c api.Conf, w words) {
	t.Helper()
	if s, e := enc.Dec(c, w); e != api.ErrForm || !isNothing(s) {
		t.Error(c, w, s, e)
	}
}

func TestDecRefuses(t *testing.T) {
	for _, x := range []struct {
		kind, n int
		l       []words
	}{
		{api.Register, 1, []words{{minusZero}, {otherNaN}, {api.NaN + 1}, {api.NaN - 1}, {api.Inf + 1}, {api.NegInf + 1}, {greatest}}},
		{api.Set, 1, []words{{0, 1, 0}, {0, 0, 1}, {1, 0, 0}, {1, 7, 7}, {2, 7, 7}, {2, 1, 2}, {2, 2, 1}, {1, 1, 2}, {1, api.MaxKey + 2, 0}, {1, 0, api.MaxKey + 2}, {1, greatest, 0}, {1, 0, greatest}}},
		{api.Dict, 1, []words{{0, 1, 0, 0, 0}, {0, 0, 0, 1, 0}, {0, 0, 1, 0, 0}, {0, 0, 0, 0, 1}, {1, 0, 0, 0, 0}, {1, 0, 1, 0, 0}, {2, 5, 1, 6, 1}, {2, 5, 1, 5, 1}, {1, api.MaxKey + 2, 0, 0, 0}, {1, 0, 0, greatest, 0}}},
		{api.Order, 1, []words{{0, 1, 0, 0, 0, 0}, {0, 0, ofZero, 0, 0, 0}, {0, 1, ofZero, 0, 0, 0}, {0, 0, 0, 1, 0, 0}, {0, 0, 0, 0, 1, 0}, {0, 0, 0, 0, 0, 1}, {1, 0, ofZero, 0, 0, 0}, {1, 2, ofZero, 0, 0, 0}, {2, 1, ofZero, 0, 0, 0},
			{1, 1, ofZero, 0, 1, 0}, {1, 1, ofZero, 0, 0, 1}, {1, 1, ofZero, 0, 2, 0}, {1, 1, 0, 0, 0, 0}, {1, 1, ofMinusZero, 0, 0, 0}, {1, 1, ofNegInf - 1, 0, 0, 0}, {1, 1, ofInf + 1, 0, 0, 0}, {1, 1, ofNaN + 1, 0, 0, 0}, {1, 1, ofNaN - 1, 0, 0, 0}, {1, 1, greatest, 0, 0, 0},
			{minusZero, 1, ofZero, 0, 0, 0}, {greatest, 1, ofZero, 0, 0, 0}, {1<<32 | 1, 1, ofZero, 0, 0, 0}, {1, 1<<32 | 1, ofZero, 0, 0, 0}, {1, greatest, ofZero, 0, 0, 0}, {greatest, greatest, greatest, greatest, greatest, greatest}}},
		{api.Ballot, 1, []words{{2, 0, 0, 0, 0, 0, 0, 0, 0, 0}, {greatest, 0, 0, 0, 0, 0, 0, 0, 0, 0}, {minusZero, 0, 0, 0, 0, 0, 0, 0, 0, 0}, {0, 1, 0, 0, 0, 0, 0, 0, 0, 0}, {0, 0, 1, 0, 0, 0, 0, 0, 0, 0}, {0, 1, 0, 1, 0, 0, 0, 0, 0, 0}, {0, 1, 2, 0, 0, 0, 0, 0, 0, 0},
			{0, 9, 0, 0, 0, 0, 0, 0, 0, 0}, {0, 9, 0, 0, 0, 0, 0, 0, 0, 1}, {0, 1 << 32, 0, 0, 0, 0, 0, 0, 0, 0}, {0, 1<<32 | 1, 1, 0, 0, 0, 0, 0, 0, 0}, {0, greatest, 0, 0, 0, 0, 0, 0, 0, 0}, {0, minusZero, 0, 0, 0, 0, 0, 0, 0, 0}, {0, 8, 0, 0, 0, 0, 0, 0, 0, greatest}}},
	} {
		for _, w := range x.l {
			if len(w) != region.Home(conf(x.kind, x.n)) {
				t.Fatal("too many or too few", x.kind, w)
			}
			refused(t, conf(x.kind, x.n), w)
		}
	}
}

func TestTooFewAndTooMany(t *testing.T) {
	for _, x := range samples() {
		w := image(x.c, x.s)
		refused(t, x.c, nil)
		refused(t, x.c, w[:len(w)-1])
		refused(t, x.c, w[1:])
		refused(t, x.c, append(words{0}, w...))
		refused(t, x.c, append(slices.Clone(w), 0))
		refused(t, x.c, append(slices.Clone(w), make(words, len(w))...))
	}
	for _, kind := range allKinds { // what is at home elsewhere, and what is far too long
		for _, n := range []int{1, 2, 17, 256} {
			home := region.Home(conf(kind, n))
			for _, many := range []int{0, 1, home - 1, home + 1, home + 4, 2 * home, 1 << 16} {
				if many != home {
					refused(t, conf(kind, n), make(words, many))
				}
			}
		}
	}
}

// choices tells all words of which each is one of those at its place.
func choices(of []words, tell func(words)) {
	w := make(words, len(of))
	var from func(int)
	from = func(i int) {
		if i == len(of) {
			tell(w)
			return
		}
		for _, v := range of[i] {
			w[i] = v
			from(i + 1)
		}
	}
	from(0)
}

func text(w words) string {
	var out []byte
	for _, v := range w {
		out = append(strconv.AppendUint(out, v, 36), ' ')
	}
	return string(out)
}

// held are all right states of some keys and values, or votes.
func held(c api.Conf, keys, vals words, box []int) (out []api.State) {
	if c.Kind == api.Ballot {
		out = []api.State{{}, {Closed: true}}
		for range c.Cap {
			var next []api.State
			for _, s := range out {
				for _, v := range box {
					next = append(next, votes(s.Closed, append(slices.Clone(s.Votes), v)...))
				}
			}
			out = next
		}
		return out
	}
	out = []api.State{{}}
	for _, k := range keys {
		for _, s := range slices.Clone(out) {
			if len(s.Keys) == c.Cap {
				continue
			}
			next := append(slices.Clone(s.Keys), k)
			if c.Kind == api.Set {
				out = append(out, keysOnly(next...))
				continue
			}
			for _, v := range vals {
				out = append(out, api.State{Keys: next, Vals: append(slices.Clone(s.Vals), v)})
			}
		}
	}
	return out
}

func TestAllSmallWords(t *testing.T) {
	few, some := words{0, 1, 2}, words{0, 1, 2, 3, api.MaxKey + 1, api.MaxKey + 2, greatest}
	ranks := words{0, ofNegInf, ofMinusZero, ofZero}
	for _, x := range []struct {
		c          api.Conf
		of         []words
		keys, vals words
		box        []int
	}{
		{conf(api.Set, 1), slices.Repeat([]words{some}, 3), words{0, 1, 2, api.MaxKey}, nil, nil},
		{conf(api.Set, 2), slices.Repeat([]words{some}, 5), words{0, 1, 2, api.MaxKey}, nil, nil},
		{conf(api.Set, 3), slices.Repeat([]words{{0, 1, 2, 3}}, 7), words{0, 1, 2}, nil, nil},
		{conf(api.Dict, 1), slices.Repeat([]words{some}, 5), words{0, 1, 2, api.MaxKey}, some, nil},
		{conf(api.Dict, 2), slices.Repeat([]words{few}, 9), words{0, 1}, few, nil},
		{conf(api.Order, 1), []words{some, some, {0, 1, ofNegInf - 1, ofNegInf, ofMinusZero, ofZero, ofOne, ofInf, ofInf + 1, ofNaN, ofNaN + 1, greatest}, some, few, few}, words{api.NegInf, 0, word(1), api.Inf, api.NaN}, some, nil},
		{conf(api.Order, 2), []words{few, few, ranks, few, few, few, ranks, few, few, few}, words{api.NegInf, 0}, few, nil},
		{conf(api.Ballot, 1), append([]words{{0, 1, 2, minusZero, greatest}, {0, 1, 2, 8, 9, 1 << 32, greatest}}, slices.Repeat([]words{{0, 1}}, 8)...), nil, nil, []int{0, 1, 2, 8}},
		{conf(api.Ballot, 2), append([]words{{0, 1}, {0, 1, 8, 9}, {0, 1, 8, 9}}, slices.Repeat([]words{few}, 8)...), nil, nil, []int{0, 1, 8}},
	} {
		states := map[string]api.State{}
		for _, s := range held(x.c, x.keys, x.vals, x.box) {
			states[text(image(x.c, s))] = s
		}
		met := 0
		choices(x.of, func(w words) {
			want, is := states[text(w)]
			s, e := enc.Dec(x.c, w)
			if (e == api.OK) != is || !is && e != api.ErrForm || !same(s, want) {
				t.Fatal(x.c, w, s, e, want)
			}
			if is {
				met++
			}
		})
		if met != len(states) || met < 4 {
			t.Error(x.c, met, "of", len(states))
		}
	}
}

// read is what words say, slot by slot, and whether they are the words of that.
func read(c api.Conf, w words) (s api.State, is bool) {
	switch c.Kind {
	case api.Register:
		s.Reg = w[0]
	case api.Set, api.Dict:
		width, vals := c.Kind-1, map[uint64]uint64{}
		for i := 1; i < len(w); i += width {
			if w[i] != 0 {
				s.Keys = append(s.Keys, w[i]-1)
				vals[w[i]-1] = w[i+width-1]
			}
		}
		for _, k := range rising(c.Kind, s.Keys) {
			if width == 2 {
				s.Vals = append(s.Vals, vals[k])
			}
		}
	case api.Order:
		for i := 2; i < len(w) && w[i] != 0; i += 4 {
			key := ^w[i]
			if w[i] >= ofZero {
				key = w[i] - ofZero
			}
			s.Keys, s.Vals = append(s.Keys, key), append(s.Vals, w[i+1])
		}
	case api.Ballot:
		s.Closed = w[0] == 1
		for _, v := range w[1 : 1+c.Cap] {
			s.Votes = append(s.Votes, int(v))
		}
	}
	if !auto.Right(c, s) || !slices.Equal(image(c, s), w) {
		return api.State{}, false
	}
	return s, true
}

// agrees tells whether words are an image, and asks that Dec says so, too.
func agrees(t *testing.T, c api.Conf, w words) bool {
	t.Helper()
	want, is := read(c, w)
	s, e := enc.Dec(c, w)
	if (e == api.OK) != is || !is && e != api.ErrForm || !same(s, want) {
		t.Fatal(c, w, s, e, want)
	}
	return is
}

// A word that is another one is mostly none that may stand there: but a Register's may, a value, whether a Ballot is closed, or a key of which the slot is the same.
func TestTurned(t *testing.T) {
	yes, no := 0, 0
	for _, x := range samples() {
		w := image(x.c, x.s)
		step := 1 + len(w)/100*2 // odd: it comes to each of an Order's four words
		for i := 0; i < len(w); i += step {
			was := w[i]
			for _, v := range (words{0, 1, 2, was + 1, was - 1, ^was, was ^ minusZero, was ^ 1<<32, greatest, w[0], w[len(w)/2], w[len(w)-1]}) {
				if v == was {
					continue
				}
				w[i] = v
				if agrees(t, x.c, w) {
					yes++
				} else {
					no++
				}
			}
			w[i] = was
		}
	}
	if yes < 100 || no < 100 {
		t.Error("nothing is learned", yes, no)
	}
}

// Records in the wrong slots, links that lead elsewhere, keys and votes in another order.
func TestSwapped(t *testing.T) {
	c := chance(7)
	for _, x := range samples() {
		w := image(x.c, x.s)
		for range 40 {
			again := slices.Clone(w)
			i, j := c.IntN(len(w)), c.IntN(len(w))
			again[i], again[j] = again[j], again[i]
			if x.c.Kind == api.Dict && i%2 == 1 && j%2 == 1 { // whole records
				again[i+1], again[j+1] = again[j+1], again[i+1]
			}
			agrees(t, x.c, again)
		}
		again := slices.Clone(w)
		slices.Reverse(again)
		agrees(t, x.c, again)
		agrees(t, x.c, append(slices.Clone(w[:1]), again[:len(w)-1]...))
	}
}

// A table that is laid by the order of keys, or of time, is another one, and no image.
func TestOtherTables(t *testing.T) {
	others := 0
	for _, n := range []int{2, 3, 5, 16, 256} {
		for seed := range 20 {
			keys, c := scattered(api.Set, n+seed)[seed:], conf(api.Set, n)
			w := append(words{uint64(n)}, make(words, 2*n)...)
			for _, k := range keys {
				slot := mix.Slot(k+1, 2*n)
				for w[1+slot] != 0 {
					slot = (slot + 1) % (2 * n)
				}
				w[1+slot] = k + 1
			}
			if !agrees(t, c, w) {
				others++
			}
		}
	}
	if others < 20 {
		t.Error("nothing is learned", others)
	}
}

func TestStatesAtFirst(t *testing.T) {
	for _, kind := range allKinds {
		for n := 1; n <= api.MaxCap; n++ {
			s, _ := auto.New(conf(kind, n))
			w, e := enc.Enc(conf(kind, n), s)
			if e != api.OK || !slices.Equal(w, make(words, region.Home(conf(kind, n)))) {
				t.Fatal("enc", kind, n, w, e)
			}
			if again, e := enc.Dec(conf(kind, n), w); e != api.OK || !same(again, s) {
				t.Fatal("dec", kind, n, again, e)
			}
		}
	}
}

func TestTheorem(t *testing.T) {
	numbers, floats, vals := words{0, 1, 4, api.MaxKey}, words{api.NegInf, word(-1), 0, api.NaN}, words{0, 12, greatest}
	for _, x := range []struct {
		c    api.Conf
		keys words
	}{
		{conf(api.Set, 1), numbers}, {conf(api.Set, 2), numbers}, {conf(api.Set, 4), numbers}, {conf(api.Dict, 2), numbers}, {conf(api.Dict, 4), numbers},
		{conf(api.Order, 2), floats}, {conf(api.Order, 4), floats}, {conf(api.Ballot, 1), nil}, {conf(api.Ballot, 2), nil}, {conf(api.Ballot, 3), nil},
	} {
		whose := map[string]api.State{}
		for _, s := range held(x.c, x.keys, vals, []int{0, 1, 2, 3, 4, 5, 6, 7, 8}) {
			w, e := enc.Enc(x.c, s)
			if other, is := whose[text(w)]; e != api.OK || is {
				t.Fatal("alike", x.c, s, other, e)
			}
			whose[text(w)] = s
			back, e := enc.Dec(x.c, w)
			if e != api.OK || !same(back, s) {
				t.Fatal("dec", x.c, s, back, e)
			}
			if again, e := enc.Enc(x.c, back); e != api.OK || !slices.Equal(again, w) {
				t.Fatal("enc", x.c, s, again, e)
			}
		}
	}
}

// Whatever was called, like states have like words.
func TestNoTrace(t *testing.T) {
	c := chance(3)
	for _, kind := range allKinds {
		for _, n := range []int{1, 3, 4, 40} {
			cf := conf(kind, n)
			s, _ := auto.New(cf)
			for range 300 {
				op := api.Op{Code: 1 + c.IntN(16), Key: c.Uint64N(uint64(2 * n)), Val: c.Uint64N(9)}
				s, _, _ = auto.Do(cf, s, op)
				w, e := enc.Enc(cf, s)
				if e != api.OK || !slices.Equal(w, image(cf, s)) {
					t.Fatal(cf, s, op, w, e)
				}
				if back, e := enc.Dec(cf, w); e != api.OK || !same(back, s) {
					t.Fatal(cf, s, op, back, e)
				}
			}
		}
	}
}

// roomy has the same elements, and room behind them in which other ones stand.
func roomy[T any](l []T, other T) []T {
	out := append(slices.Clone(l), other, other, other)
	return out[:len(l)]
}

func intact[T comparable](l []T, want []T, other T) bool {
	return slices.Equal(l, want) && slices.Equal(l[len(l):len(l)+3], []T{other, other, other})
}

func spoil[T any](l []T, other T) {
	l = l[:cap(l)]
	for i := range l {
		l[i] = other
	}
}

func TestNothingHandedInIsWrittenInto(t *testing.T) {
	for _, x := range samples() {
		hand := api.State{Reg: x.s.Reg, Keys: roomy(x.s.Keys, 77), Vals: roomy(x.s.Vals, 77), Votes: roomy(x.s.Votes, 7), Closed: x.s.Closed}
		enc.Enc(x.c, hand)
		if !intact(hand.Keys, x.s.Keys, 77) || !intact(hand.Vals, x.s.Vals, 77) || !intact(hand.Votes, x.s.Votes, 7) {
			t.Error("enc", x)
		}
		want := image(x.c, x.s)
		w := roomy(want, 77)
		enc.Dec(x.c, w)
		enc.Dec(x.c, w[:len(w)-1])
		if !intact(w, want, 77) {
			t.Error("dec", x)
		}
		w[0]++
		enc.Dec(x.c, w)
		w[0]--
		if !intact(w, want, 77) {
			t.Error("dec of none", x)
		}
	}
}

func TestAnswersShareNothing(t *testing.T) {
	for _, x := range samples() {
		hand := api.State{Reg: x.s.Reg, Keys: slices.Clone(x.s.Keys), Vals: slices.Clone(x.s.Vals), Votes: slices.Clone(x.s.Votes), Closed: x.s.Closed}
		one, _ := enc.Enc(x.c, hand)
		two, _ := enc.Enc(x.c, hand)
		spoil(one, 0xbad)
		if want := image(x.c, x.s); !slices.Equal(two, want) || !same(hand, x.s) {
			t.Fatal("enc", x, two)
		}
		w := slices.Clone(two)
		a, _ := enc.Dec(x.c, w)
		b, _ := enc.Dec(x.c, w)
		spoil(a.Keys, 0xbad)
		if !slices.Equal(a.Vals, x.s.Vals) {
			t.Error("keys and values", x)
		}
		spoil(a.Vals, 0xbad)
		spoil(a.Votes, -5)
		if !same(b, x.s) || !slices.Equal(w, two) {
			t.Error("dec", x, b)
		}
		spoil(w, 0xbad)
		if !same(b, x.s) {
			t.Error("words", x, b)
		}
	}
}

// What is answered hangs on what is asked alone, whoever asks at the same time.
func TestSameForTheSame(t *testing.T) {
	var all sync.WaitGroup
	l := samples()
	for range 4 {
		all.Go(func() {
			for _, x := range l {
				w, e := enc.Enc(x.c, x.s)
				if e != api.OK || !slices.Equal(w, image(x.c, x.s)) {
					t.Error("enc", x)
				}
				if s, e := enc.Dec(x.c, w); e != api.OK || !same(s, x.s) {
					t.Error("dec", x)
				}
			}
		})
	}
	all.Wait()
}

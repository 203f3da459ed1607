package auto_test

import (
	"math"
	"math/rand/v2"
	"slices"
	"sync"
	"testing"

	"whitewash/api"
	"whitewash/auto"
)

type (
	words = []uint64
	resps = []api.Resp
)

const (
	greatest  = math.MaxUint64
	minusZero = uint64(1 << 63)
	otherNaN  = uint64(0xfff8000000000000)
)

var (
	allKinds = []int{api.Register, api.Set, api.Dict, api.Order, api.Ballot}
	withKeys = []int{api.Set, api.Dict, api.Order}
	misfits  = []api.Conf{
		{}, {Kind: 0, Procs: 1, Cap: 1}, {Kind: 6, Procs: 1, Cap: 1}, {Kind: -1, Procs: 1, Cap: 1}, {Kind: math.MinInt, Procs: 1, Cap: 1}, {Kind: math.MaxInt, Procs: 1, Cap: 1},
		{Kind: 1, Procs: 0, Cap: 1}, {Kind: 1, Procs: 17, Cap: 1}, {Kind: 1, Procs: -1, Cap: 1}, {Kind: 1, Procs: 1, Cap: 0}, {Kind: 1, Procs: 1, Cap: 257},
		{Kind: 2, Procs: 0, Cap: 2}, {Kind: 2, Procs: 17, Cap: 2}, {Kind: 2, Procs: 1, Cap: 257}, {Kind: 2, Procs: 1, Cap: -1},
		{Kind: 3, Procs: 1, Cap: 0}, {Kind: 3, Procs: 1, Cap: math.MaxInt}, {Kind: 4, Procs: 1, Cap: 257}, {Kind: 4, Procs: math.MinInt, Cap: 1},
		{Kind: 5, Procs: 1, Cap: 0}, {Kind: 5, Procs: 1, Cap: 257}, {Kind: 5, Procs: 1, Cap: math.MinInt}, {Kind: 5, Procs: 17, Cap: 3},
	}
	// codes beside those that there are
	noCodes = []int{0, 17, 18, 254, 255, 256, 257, -1, -2, -16, 1 << 32, 1<<32 + 1, 1<<32 + 8, math.MinInt, math.MinInt + 1, math.MaxInt}
)

func word(f float64) uint64 { return math.Float64bits(f) }

func conf(kind, n int) api.Conf { return api.Conf{Kind: kind, Procs: 1, Cap: n} }

// chance is the same one each time.
func chance(seed uint64) *rand.Rand { return rand.New(rand.NewPCG(seed, 1)) }

func told(v uint64) api.Resp         { return api.Resp{Val: v} }
func fails(e api.Errno) api.Resp     { return api.Resp{Errno: e} }
func keysOnly(l ...uint64) api.State { return api.State{Keys: l} }

// pairs is a state of keys, a value behind each.
func pairs(l ...uint64) (s api.State) {
	for i := 0; i+1 < len(l); i += 2 {
		s.Keys, s.Vals = append(s.Keys, l[i]), append(s.Vals, l[i+1])
	}
	return s
}

func votes(closed bool, l ...int) api.State { return api.State{Votes: l, Closed: closed} }

func same(a, b api.State) bool {
	return a.Reg == b.Reg && slices.Equal(a.Keys, b.Keys) && slices.Equal(a.Vals, b.Vals) && slices.Equal(a.Votes, b.Votes) && a.Closed == b.Closed
}

func deep(s api.State) api.State {
	s.Keys, s.Vals, s.Votes = slices.Clone(s.Keys), slices.Clone(s.Vals), slices.Clone(s.Votes)
	return s
}

func isNothing(s api.State) bool { return same(s, api.State{}) }

// comes is the floats' order, told of floats, not of words: it tells whether a stands ahead of b.
func comes(a, b uint64) bool {
	x, y := math.Float64frombits(a), math.Float64frombits(b)
	if x != x || y != y {
		return x == x
	}
	return x < y
}

func canonical(w uint64) uint64 {
	switch f := math.Float64frombits(w); {
	case f != f:
		return api.NaN
	case f == 0:
		return 0
	}
	return w
}

// model is an object made in another way: by maps that are gone through.
type model struct {
	kind, size int
	reg        uint64
	held       map[uint64]uint64
	cast       map[uint64]uint64
	closed     bool
}

func newModel(c api.Conf) *model {
	return &model{kind: c.Kind, size: c.Cap, held: map[uint64]uint64{}, cast: map[uint64]uint64{}}
}

func modelOf(c api.Conf, s api.State) *model {
	m := newModel(c)
	m.reg, m.closed = s.Reg, s.Closed
	for i, k := range s.Keys {
		m.held[k] = 0
		if len(s.Vals) > 0 {
			m.held[k] = s.Vals[i]
		}
	}
	for i, v := range s.Votes {
		if v != 0 {
			m.cast[uint64(i)] = uint64(v)
		}
	}
	return m
}

func (m *model) state() (s api.State) {
	s.Reg, s.Closed = m.reg, m.closed
	for k := range m.held {
		s.Keys = append(s.Keys, k)
	}
	slices.SortFunc(s.Keys, func(a, b uint64) int {
		if m.ahead(a, b) {
			return -1
		}
		return 1
	})
	for _, k := range s.Keys {
		if m.kind != api.Set {
			s.Vals = append(s.Vals, m.held[k])
		}
	}
	for i := range m.size {
		if m.kind == api.Ballot {
			s.Votes = append(s.Votes, int(m.cast[uint64(i)]))
		}
	}
	return s
}

func (m *model) ahead(a, b uint64) bool {
	if m.kind == api.Order {
		return comes(a, b)
	}
	return a < b
}

func (m *model) do(op api.Op) api.Resp {
	switch m.kind {
	case api.Register:
		return m.register(op)
	case api.Ballot:
		return m.ballot(op)
	}
	return m.keyed(op)
}

func (m *model) register(op api.Op) api.Resp {
	was, x, y := m.reg, math.Float64frombits(m.reg), math.Float64frombits(op.Val)
	switch op.Code {
	case 1:
		return told(was)
	case 2:
		m.reg = canonical(op.Val)
		return told(was)
	case 3:
		if comes(m.reg, op.Val) {
			m.reg = canonical(op.Val)
		}
		return told(m.reg)
	case 4:
		m.reg = canonical(math.Float64bits(x + y))
		return told(m.reg)
	}
	return fails(10)
}

func (m *model) keyed(op api.Op) api.Resp {
	isSet, speaks := m.kind == api.Set, op.Code != 9
	if op.Code < 5 || op.Code > 11 || isSet && op.Code > 9 || !isSet && op.Code < 7 {
		return fails(10)
	}
	if m.kind != api.Order && speaks && op.Key > 1<<62 {
		return fails(10)
	}
	k := op.Key
	if m.kind == api.Order {
		k = canonical(k)
	}
	val, is := m.held[k]
	full := !is && len(m.held) == m.size
	switch {
	case op.Code == 5 && is:
		return told(1)
	case op.Code == 5 || op.Code == 6 && is:
		return told(0)
	case (op.Code == 6 || op.Code == 11) && full:
		return fails(11)
	case op.Code == 6:
		m.held[k] = 0
		return told(1)
	case op.Code == 11:
		m.held[k] = op.Val
		return told(val)
	case op.Code == 9:
		return told(uint64(len(m.held)))
	case op.Code == 8:
		return m.next(k, op.Val != 0)
	case !is:
		return fails(12)
	case op.Code == 7:
		delete(m.held, k)
	}
	return told(val)
}

func (m *model) next(k uint64, beyond bool) api.Resp {
	best, is := uint64(0), false
	for h := range m.held {
		if m.ahead(h, k) || beyond && h == k || is && m.ahead(best, h) {
			continue
		}
		best, is = h, true
	}
	if !is {
		return fails(12)
	}
	return told(best)
}

func (m *model) ballot(op api.Op) api.Resp {
	voter, choice := op.Key < uint64(m.size), op.Val > 0 && op.Val < 9
	switch {
	case op.Code == 12 && !(voter && choice), op.Code == 15 && !voter, op.Code == 14 && (op.Key == 0 || op.Key > 8), op.Code < 12, op.Code > 16:
		return fails(10)
	case op.Code == 12 && m.closed:
		return fails(14)
	case op.Code == 12 && m.cast[op.Key] != 0:
		return fails(13)
	case op.Code == 12:
		m.cast[op.Key] = op.Val
		return told(0)
	case op.Code == 15:
		return told(m.cast[op.Key])
	case op.Code == 14:
		n := uint64(0)
		for _, v := range m.cast {
			if v == op.Key {
				n++
			}
		}
		return told(n)
	case op.Code == 13 && !m.closed:
		m.closed = true
		return told(1)
	case op.Code == 16 && m.closed:
		return told(1)
	}
	return told(0)
}

// out is the read-out of a right state, written down from it.
func out(c api.Conf, s api.State) (l resps) {
	switch c.Kind {
	case api.Register:
		return resps{told(s.Reg)}
	case api.Ballot:
		l = make(resps, 9)
		if s.Closed {
			l[0].Val = 1
		}
		for _, v := range s.Votes {
			if v != 0 {
				l[v].Val++
			}
			l = append(l, told(uint64(v)))
		}
		return l
	}
	for i, k := range s.Keys {
		l = append(l, told(k))
		if c.Kind != api.Set {
			l = append(l, told(s.Vals[i]))
		}
	}
	return append(l, fails(12))
}

// states are some right ones of each kind of object, with their configurations.
func states() (out []struct {
	c api.Conf
	s api.State
}) {
	add := func(kind, n int, l ...api.State) {
		for _, s := range l {
			out = append(out, struct {
				c api.Conf
				s api.State
			}{conf(kind, n), s})
		}
	}
	for _, w := range (words{0, 1, word(1), word(-1), word(2.5), api.Inf, api.NegInf, api.NaN, 1<<63 | 1, word(math.MaxFloat64)}) {
		add(api.Register, 1, api.State{Reg: w})
	}
	add(api.Set, 1, keysOnly(), keysOnly(0), keysOnly(7), keysOnly(api.MaxKey))
	add(api.Set, 3, keysOnly(), keysOnly(5), keysOnly(0, 1), keysOnly(3, api.MaxKey), keysOnly(0, 1, 2), keysOnly(0, 9, api.MaxKey))
	add(api.Dict, 1, pairs(), pairs(0, 0), pairs(7, 8), pairs(api.MaxKey, greatest))
	add(api.Dict, 3, pairs(), pairs(5, 0), pairs(5, 6), pairs(0, 1, 1, 0), pairs(0, 0, 1, 0, 2, 0), pairs(0, 12, 9, 9, api.MaxKey, 5))
	add(api.Order, 1, pairs(), pairs(0, 0), pairs(api.NegInf, 1), pairs(api.NaN, greatest))
	add(api.Order, 3, pairs(), pairs(word(-1), minusZero), pairs(0, otherNaN, 1, 5), pairs(api.NegInf, 0, 0, 0, api.NaN, 0), pairs(word(-2), 3, word(-1), 2, word(5), 1), pairs(api.Inf, 4, api.NaN, 4))
	add(api.Ballot, 1, votes(false, 0), votes(true, 0), votes(false, 8), votes(true, 1))
	add(api.Ballot, 3, votes(false, 0, 0, 0), votes(true, 1, 2, 3), votes(false, 8, 8, 0), votes(true, 0, 0, 4), votes(false, 4, 4, 4))
	return out
}

var (
	someKeys = words{0, 1, 2, 3, 5, 7, 8, 9, api.MaxKey - 1, api.MaxKey, api.MaxKey + 1, minusZero, minusZero + 1, api.NegInf, api.NegInf + 1, api.Inf, api.NaN, api.NaN + 1, otherNaN, greatest, word(-1), word(-2), word(5), word(1)}
	someVals = words{0, 1, 2, 8, 9, minusZero, api.NegInf, api.Inf, api.NaN, otherNaN, greatest, word(1), word(-1), word(1e300), 1 << 32}
)

// calls are those of all codes, with keys and values of all kinds.
func calls() (out []api.Op) {
	for _, code := range append(slices.Clone(noCodes), 1, 2, 3, 4, 5, 6, 7, 8, 9, 10, 11, 12, 13, 14, 15, 16) {
		for _, k := range someKeys {
			for _, v := range someVals {
				out = append(out, api.Op{Code: code, Key: k, Val: v})
			}
		}
	}
	return out
}

func TestNew(t *testing.T) {
	for _, kind := range allKinds {
		for _, n := range []int{1, 2, 16, 17, 255, 256} {
			for _, procs := range []int{1, 2, 16} {
				c := api.Conf{Kind: kind, Procs: procs, Cap: n}
				want := api.State{}
				if kind == api.Ballot {
					want.Votes = make([]int, n)
				}
				if s, e := auto.New(c); e != api.OK || !same(s, want) || !auto.Right(c, s) {
					t.Error(c, s, e)
				}
			}
		}
	}
}

func TestMisfits(t *testing.T) {
	for _, c := range misfits {
		for _, s := range []api.State{{}, {Reg: 5}, keysOnly(1), keysOnly(2, 1), pairs(1, 2), votes(false, 0), votes(true, 0, 0, 0), votes(true, make([]int, 257)...)} {
			if auto.Right(c, s) {
				t.Error("right", c, s)
			}
			if s, r, e := auto.Do(c, s, api.Op{Code: api.OpCount}); e != api.ErrConfig || !isNothing(s) || r != (api.Resp{}) {
				t.Error("do", c, s, r, e)
			}
			if l, e := auto.Out(c, s); e != api.ErrConfig || len(l) != 0 {
				t.Error("out", c, l, e)
			}
		}
		if s, e := auto.New(c); e != api.ErrConfig || !isNothing(s) {
			t.Error("new", c, s, e)
		}
		for _, l := range []resps{nil, {{}}, {fails(12)}, {told(1), fails(12)}, make(resps, 9), make(resps, 10), make(resps, 9+257)} {
			if op, more := auto.Probe(c, l...); more || op != (api.Op{}) {
				t.Error("probe", c, op)
			}
			if s, is := auto.Seen(c, l...); is || !isNothing(s) {
				t.Error("seen", c, s)
			}
		}
	}
}

func TestRight(t *testing.T) {
	for _, x := range states() {
		if !auto.Right(x.c, x.s) {
			t.Error(x)
		}
	}
	for _, n := range []int{255, 256} { // as many as there may be, and one less
		var up, down words
		for i := range 256 {
			up = append(up, uint64(i))
			down = append(down, word(float64(i-256)))
		}
		if !auto.Right(conf(api.Set, 256), keysOnly(up[:n]...)) || auto.Right(conf(api.Set, 255), keysOnly(up[:n]...)) != (n == 255) {
			t.Error("set", n)
		}
		for kind, l := range map[int]words{api.Dict: up[:n], api.Order: down[:n]} {
			s := api.State{Keys: l, Vals: l}
			if !auto.Right(conf(kind, 256), s) || auto.Right(conf(kind, 255), s) != (n == 255) {
				t.Error(kind, n)
			}
		}
		if !auto.Right(conf(api.Ballot, n), votes(true, make([]int, n)...)) || auto.Right(conf(api.Ballot, 511-n), votes(true, make([]int, n)...)) {
			t.Error("ballot", n)
		}
	}
}

func TestNotRight(t *testing.T) {
	for _, x := range []struct {
		kind, n int
		l       []api.State
	}{
		{api.Register, 3, []api.State{{Reg: minusZero}, {Reg: otherNaN}, {Reg: api.NaN + 1}, {Reg: api.NaN - 1}, {Reg: greatest}, {Reg: api.Inf + 1}, {Reg: api.NegInf + 1},
			keysOnly(0), {Vals: words{0}}, pairs(0, 0), votes(false, 0), votes(false, 0, 0, 0), votes(true)}},
		{api.Set, 3, []api.State{{Reg: 1}, {Reg: 1, Keys: words{1}}, keysOnly(1, 1), keysOnly(2, 1), keysOnly(0, 0), keysOnly(1, 2, 2), keysOnly(1, 3, 2), keysOnly(1, 2, 3, 4),
			keysOnly(api.MaxKey + 1), keysOnly(1, api.MaxKey+1), keysOnly(greatest), keysOnly(0, minusZero), keysOnly(api.MaxKey, api.MaxKey),
			{Vals: words{0}}, pairs(1, 0), pairs(1, 1, 2, 2), votes(false, 0, 0, 0), votes(true), {Keys: words{1}, Closed: true}, {Keys: words{1}, Votes: []int{0}}}},
		{api.Dict, 3, []api.State{{Reg: 1}, {Keys: words{1}}, {Vals: words{1}}, {Keys: words{1, 2}, Vals: words{1}}, {Keys: words{1}, Vals: words{1, 2}}, pairs(1, 0, 1, 0), pairs(2, 0, 1, 0),
			pairs(1, 0, 2, 0, 3, 0, 4, 0), pairs(api.MaxKey+1, 0), pairs(0, 0, greatest, 0), pairs(0, 0, minusZero, 0), votes(false, 0), votes(true), {Keys: words{1}, Vals: words{1}, Closed: true}, {Keys: words{1}, Vals: words{1}, Reg: 1}, {Keys: words{1}, Vals: words{1}, Votes: []int{0, 0, 0}}}},
		{api.Order, 3, []api.State{{Reg: 1}, {Keys: words{1}}, {Vals: words{1}}, {Keys: words{1, 2}, Vals: words{1}}, {Keys: words{1}, Vals: words{1, 2}}, pairs(1, 0, 1, 0), pairs(2, 0, 1, 0),
			pairs(1, 0, 2, 0, 3, 0, 4, 0), pairs(minusZero, 0), pairs(otherNaN, 0), pairs(api.NaN+1, 0), pairs(0, 0, minusZero, 0), pairs(minusZero, 0, 0, 0), pairs(0, 0, api.NegInf, 0), pairs(0, 0, word(-1), 0), pairs(word(-1), 0, word(-2), 0),
			pairs(api.NaN, 0, api.Inf, 0), pairs(api.NaN, 0, api.NaN, 0), pairs(api.NaN, 0, otherNaN, 0), pairs(api.Inf, 0, api.NegInf, 0), votes(false, 0), votes(true), {Keys: words{1}, Vals: words{1}, Closed: true}, {Keys: words{1}, Vals: words{1}, Reg: 1}}},
		{api.Ballot, 3, []api.State{{}, votes(true), votes(false, 0), votes(false, 0, 0), votes(false, 0, 0, 0, 0), votes(false, 9, 0, 0), votes(false, 0, 0, 9), votes(true, 0, -1, 0), votes(false, -1, 0, 0), votes(false, 0, 0, math.MinInt), votes(false, math.MaxInt, 0, 0), votes(false, 1<<32, 0, 0),
			{Votes: make([]int, 3), Reg: 1}, {Votes: make([]int, 3), Keys: words{0}}, {Votes: make([]int, 3), Vals: words{0}}, {Votes: make([]int, 3), Keys: words{0}, Vals: words{0}}}},
	} {
		for i, s := range x.l {
			c := conf(x.kind, x.n)
			if auto.Right(c, s) {
				t.Error("right", x.kind, i, s)
			}
			for _, code := range []int{api.OpRead, api.OpNext, api.OpCount, api.OpClosed, 0, 99} {
				if got, r, e := auto.Do(c, s, api.Op{Code: code}); e != api.ErrArg || !isNothing(got) || r != (api.Resp{}) {
					t.Error("do", x.kind, i, got, r, e)
				}
			}
			if l, e := auto.Out(c, s); e != api.ErrArg || len(l) != 0 {
				t.Error("out", x.kind, i, l, e)
			}
		}
	}
}

// step is a call, what it tells, and what is there then.
type step struct {
	op   api.Op
	r    api.Resp
	then api.State
}

// do is calls one behind the other, from the state at first on.
func do(t *testing.T, c api.Conf, l ...step) {
	t.Helper()
	s, e := auto.New(c)
	if e != api.OK {
		t.Fatal(e)
	}
	for i, x := range l {
		next, r, e := auto.Do(c, s, x.op)
		if e != api.OK || r != x.r || !same(next, x.then) {
			t.Error(c, i, x.op, next, r, e)
		}
		s = next
	}
}

func TestRegister(t *testing.T) {
	reg := func(f float64) api.State { return api.State{Reg: word(f)} }
	nan, inf := api.State{Reg: api.NaN}, api.State{Reg: api.Inf}
	do(t, conf(api.Register, 1),
		step{api.Op{Code: api.OpRead, Key: greatest, Val: greatest}, told(0), api.State{}},
		step{api.Op{Code: api.OpWrite, Key: greatest, Val: word(1.5)}, told(0), reg(1.5)},
		step{api.Op{Code: api.OpWrite, Val: word(-4)}, told(word(1.5)), reg(-4)},
		step{api.Op{Code: api.OpRead}, told(word(-4)), reg(-4)},
		step{api.Op{Code: api.OpMax, Val: word(-5)}, told(word(-4)), reg(-4)},
		step{api.Op{Code: api.OpMax, Val: minusZero}, told(0), reg(0)},
		step{api.Op{Code: api.OpMax, Val: word(2)}, told(word(2)), reg(2)},
		step{api.Op{Code: api.OpSum, Val: word(0.5)}, told(word(2.5)), reg(2.5)},
		step{api.Op{Code: api.OpSum, Val: word(-2.5)}, told(0), reg(0)},
		step{api.Op{Code: api.OpWrite, Val: minusZero}, told(0), reg(0)},
		step{api.Op{Code: api.OpSum, Val: minusZero}, told(0), reg(0)},
		step{api.Op{Code: api.OpSum, Val: api.Inf}, told(api.Inf), inf},
		step{api.Op{Code: api.OpHas, Val: 3}, fails(api.ErrBadOp), inf},
		step{api.Op{Code: api.OpSum, Val: api.NegInf}, told(api.NaN), nan},
		step{api.Op{Code: api.OpMax, Val: api.Inf}, told(api.NaN), nan},
		step{api.Op{Code: api.OpWrite, Val: word(3)}, told(api.NaN), reg(3)},
		step{api.Op{Code: api.OpMax, Val: otherNaN}, told(api.NaN), nan},
		step{api.Op{Code: api.OpWrite, Val: api.NaN + 9}, told(api.NaN), nan},
	)
}

func TestSet(t *testing.T) {
	last := keysOnly(2, api.MaxKey)
	do(t, conf(api.Set, 2),
		step{api.Op{Code: api.OpHas, Key: 0}, told(0), keysOnly()},
		step{api.Op{Code: api.OpNext}, fails(api.ErrNone), keysOnly()},
		step{api.Op{Code: api.OpCount}, told(0), keysOnly()},
		step{api.Op{Code: api.OpDel}, fails(api.ErrNone), keysOnly()},
		step{api.Op{Code: api.OpAdd, Key: 5, Val: 77}, told(1), keysOnly(5)},
		step{api.Op{Code: api.OpAdd, Key: 2}, told(1), keysOnly(2, 5)},
		step{api.Op{Code: api.OpAdd, Key: 5}, told(0), keysOnly(2, 5)},
		step{api.Op{Code: api.OpAdd, Key: 3}, fails(api.ErrFull), keysOnly(2, 5)},
		step{api.Op{Code: api.OpAdd, Key: api.MaxKey + 1}, fails(api.ErrBadOp), keysOnly(2, 5)},
		step{api.Op{Code: api.OpHas, Key: 5, Val: 3}, told(1), keysOnly(2, 5)},
		step{api.Op{Code: api.OpHas, Key: 3}, told(0), keysOnly(2, 5)},
		step{api.Op{Code: api.OpCount, Key: greatest, Val: greatest}, told(2), keysOnly(2, 5)},
		step{api.Op{Code: api.OpNext, Key: 2}, told(2), keysOnly(2, 5)},
		step{api.Op{Code: api.OpNext, Key: 2, Val: 1}, told(5), keysOnly(2, 5)},
		step{api.Op{Code: api.OpNext, Key: 3, Val: greatest}, told(5), keysOnly(2, 5)},
		step{api.Op{Code: api.OpNext, Key: 5, Val: 1 << 63}, fails(api.ErrNone), keysOnly(2, 5)},
		step{api.Op{Code: api.OpNext, Key: 6}, fails(api.ErrNone), keysOnly(2, 5)},
		step{api.Op{Code: api.OpDel, Key: 3}, fails(api.ErrNone), keysOnly(2, 5)},
		step{api.Op{Code: api.OpDel, Key: 5, Val: 9}, told(0), keysOnly(2)},
		step{api.Op{Code: api.OpAdd, Key: api.MaxKey}, told(1), last},
		step{api.Op{Code: api.OpNext, Key: api.MaxKey}, told(api.MaxKey), last},
		step{api.Op{Code: api.OpHas, Key: api.MaxKey + 1}, fails(api.ErrBadOp), last},
		step{api.Op{Code: api.OpDel, Key: api.MaxKey + 1}, fails(api.ErrBadOp), last},
		step{api.Op{Code: api.OpNext, Key: api.MaxKey + 1}, fails(api.ErrBadOp), last},
		step{api.Op{Code: api.OpNext, Key: greatest, Val: 1}, fails(api.ErrBadOp), last},
		step{api.Op{Code: api.OpGet, Key: 2}, fails(api.ErrBadOp), last},
		step{api.Op{Code: api.OpPut, Key: 2}, fails(api.ErrBadOp), last},
	)
}

func TestDict(t *testing.T) {
	last := pairs(5, 0)
	do(t, conf(api.Dict, 2),
		step{api.Op{Code: api.OpGet}, fails(api.ErrNone), pairs()},
		step{api.Op{Code: api.OpPut, Key: 5, Val: 50}, told(0), pairs(5, 50)},
		step{api.Op{Code: api.OpPut, Key: 2, Val: 20}, told(0), pairs(2, 20, 5, 50)},
		step{api.Op{Code: api.OpPut, Key: 5, Val: greatest}, told(50), pairs(2, 20, 5, greatest)},
		step{api.Op{Code: api.OpPut, Key: 3, Val: 30}, fails(api.ErrFull), pairs(2, 20, 5, greatest)},
		step{api.Op{Code: api.OpPut, Key: api.MaxKey + 1, Val: 30}, fails(api.ErrBadOp), pairs(2, 20, 5, greatest)},
		step{api.Op{Code: api.OpGet, Key: 5, Val: 9}, told(greatest), pairs(2, 20, 5, greatest)},
		step{api.Op{Code: api.OpGet, Key: 3}, fails(api.ErrNone), pairs(2, 20, 5, greatest)},
		step{api.Op{Code: api.OpGet, Key: api.MaxKey + 1}, fails(api.ErrBadOp), pairs(2, 20, 5, greatest)},
		step{api.Op{Code: api.OpNext, Key: 3}, told(5), pairs(2, 20, 5, greatest)},
		step{api.Op{Code: api.OpNext, Key: 2, Val: 2}, told(5), pairs(2, 20, 5, greatest)},
		step{api.Op{Code: api.OpCount, Key: greatest}, told(2), pairs(2, 20, 5, greatest)},
		step{api.Op{Code: api.OpPut, Key: 5}, told(greatest), pairs(2, 20, 5, 0)},
		step{api.Op{Code: api.OpDel, Key: 2, Val: 5}, told(20), last},
		step{api.Op{Code: api.OpDel, Key: 2}, fails(api.ErrNone), last},
		step{api.Op{Code: api.OpDel, Key: greatest}, fails(api.ErrBadOp), last},
		step{api.Op{Code: api.OpHas, Key: 5}, fails(api.ErrBadOp), last},
		step{api.Op{Code: api.OpAdd, Key: 6}, fails(api.ErrBadOp), last},
		step{api.Op{Code: api.OpGet, Key: 5}, told(0), last},
		step{api.Op{Code: api.OpPut, Key: api.MaxKey, Val: 1}, told(0), pairs(5, 0, api.MaxKey, 1)},
	)
}

func TestOrder(t *testing.T) {
	all := pairs(api.NegInf, 3, 0, 4, api.NaN, 1)
	do(t, conf(api.Order, 3),
		step{api.Op{Code: api.OpNext, Key: api.NegInf}, fails(api.ErrNone), pairs()},
		step{api.Op{Code: api.OpPut, Key: otherNaN, Val: 1}, told(0), pairs(api.NaN, 1)},
		step{api.Op{Code: api.OpPut, Key: minusZero, Val: minusZero}, told(0), pairs(0, minusZero, api.NaN, 1)},
		step{api.Op{Code: api.OpGet}, told(minusZero), pairs(0, minusZero, api.NaN, 1)},
		step{api.Op{Code: api.OpPut, Key: api.NegInf, Val: 3}, told(0), pairs(api.NegInf, 3, 0, minusZero, api.NaN, 1)},
		step{api.Op{Code: api.OpPut, Val: 4}, told(minusZero), all},
		step{api.Op{Code: api.OpPut, Key: word(1), Val: 9}, fails(api.ErrFull), all},
		step{api.Op{Code: api.OpGet, Key: greatest}, told(1), all},
		step{api.Op{Code: api.OpGet, Key: word(1)}, fails(api.ErrNone), all},
		step{api.Op{Code: api.OpNext, Key: word(-7)}, told(0), all},
		step{api.Op{Code: api.OpNext, Key: minusZero}, told(0), all},
		step{api.Op{Code: api.OpNext, Key: minusZero, Val: 1}, told(api.NaN), all},
		step{api.Op{Code: api.OpNext, Key: api.NegInf, Val: 1}, told(0), all},
		step{api.Op{Code: api.OpNext, Key: otherNaN}, told(api.NaN), all},
		step{api.Op{Code: api.OpNext, Key: otherNaN, Val: 1}, fails(api.ErrNone), all},
		step{api.Op{Code: api.OpCount}, told(3), all},
		step{api.Op{Code: api.OpHas}, fails(api.ErrBadOp), all},
		step{api.Op{Code: api.OpAdd, Key: 1}, fails(api.ErrBadOp), all},
		step{api.Op{Code: api.OpDel, Key: minusZero}, told(4), pairs(api.NegInf, 3, api.NaN, 1)},
		step{api.Op{Code: api.OpDel, Key: 0}, fails(api.ErrNone), pairs(api.NegInf, 3, api.NaN, 1)},
		step{api.Op{Code: api.OpDel, Key: api.NaN - 1}, told(1), pairs(api.NegInf, 3)},
		step{api.Op{Code: api.OpPut, Key: greatest - 1<<62, Val: 2}, told(0), pairs(api.NegInf, 3, greatest-1<<62, 2)},
	)
}

func TestBallot(t *testing.T) {
	shut := votes(true, 3, 8)
	do(t, conf(api.Ballot, 2),
		step{api.Op{Code: api.OpClosed}, told(0), votes(false, 0, 0)},
		step{api.Op{Code: api.OpCast, Key: 2, Val: 1}, fails(api.ErrBadOp), votes(false, 0, 0)},
		step{api.Op{Code: api.OpCast, Key: 1}, fails(api.ErrBadOp), votes(false, 0, 0)},
		step{api.Op{Code: api.OpCast, Key: 1, Val: 9}, fails(api.ErrBadOp), votes(false, 0, 0)},
		step{api.Op{Code: api.OpCast, Key: 1, Val: greatest}, fails(api.ErrBadOp), votes(false, 0, 0)},
		step{api.Op{Code: api.OpCast, Key: greatest, Val: 1}, fails(api.ErrBadOp), votes(false, 0, 0)},
		step{api.Op{Code: api.OpCast, Key: 1 << 63, Val: 1}, fails(api.ErrBadOp), votes(false, 0, 0)},
		step{api.Op{Code: api.OpCast, Key: 1, Val: 8}, told(0), votes(false, 0, 8)},
		step{api.Op{Code: api.OpCast, Key: 1, Val: 8}, fails(api.ErrVoted), votes(false, 0, 8)},
		step{api.Op{Code: api.OpCast, Key: 1, Val: 9}, fails(api.ErrBadOp), votes(false, 0, 8)},
		step{api.Op{Code: api.OpCast, Key: 0, Val: 3}, told(0), votes(false, 3, 8)},
		step{api.Op{Code: api.OpTally, Key: 8, Val: 3}, told(1), votes(false, 3, 8)},
		step{api.Op{Code: api.OpTally, Key: 1}, told(0), votes(false, 3, 8)},
		step{api.Op{Code: api.OpTally, Key: 0}, fails(api.ErrBadOp), votes(false, 3, 8)},
		step{api.Op{Code: api.OpTally, Key: 9}, fails(api.ErrBadOp), votes(false, 3, 8)},
		step{api.Op{Code: api.OpTally, Key: greatest}, fails(api.ErrBadOp), votes(false, 3, 8)},
		step{api.Op{Code: api.OpVote, Key: 1, Val: greatest}, told(8), votes(false, 3, 8)},
		step{api.Op{Code: api.OpVote, Key: 2}, fails(api.ErrBadOp), votes(false, 3, 8)},
		step{api.Op{Code: api.OpVote, Key: greatest}, fails(api.ErrBadOp), votes(false, 3, 8)},
		step{api.Op{Code: api.OpClose, Key: 7, Val: 7}, told(1), shut},
		step{api.Op{Code: api.OpClose}, told(0), shut},
		step{api.Op{Code: api.OpClosed, Key: 7, Val: 7}, told(1), shut},
		step{api.Op{Code: api.OpCast, Key: 1, Val: 1}, fails(api.ErrClosed), shut},
		step{api.Op{Code: api.OpCast, Key: 2, Val: 1}, fails(api.ErrBadOp), shut},
		step{api.Op{Code: api.OpCast, Key: 1, Val: 0}, fails(api.ErrBadOp), shut},
		step{api.Op{Code: api.OpCount}, fails(api.ErrBadOp), shut},
		step{api.Op{Code: api.OpTally, Key: 3}, told(1), shut},
	)
}

// Which codes an object has a row for, and which it has none for.
func TestRows(t *testing.T) {
	rows := map[int][]int{api.Register: {1, 2, 3, 4}, api.Set: {5, 6, 7, 8, 9}, api.Dict: {7, 8, 9, 10, 11}, api.Order: {7, 8, 9, 10, 11}, api.Ballot: {12, 13, 14, 15, 16}}
	for kind, own := range rows {
		c := conf(kind, 3)
		s, _ := auto.New(c)
		for _, code := range append(slices.Clone(noCodes), 1, 2, 3, 4, 5, 6, 7, 8, 9, 10, 11, 12, 13, 14, 15, 16) {
			next, r, e := auto.Do(c, s, api.Op{Code: code, Key: 1, Val: 1})
			if e != api.OK || (r.Errno == api.ErrBadOp) == slices.Contains(own, code) {
				t.Error(kind, code, r, e)
			}
			if r.Errno == api.ErrBadOp && (r.Val != 0 || !same(s, next)) {
				t.Error(kind, code, r, next)
			}
		}
	}
}

// Each call, of each state, as the model does it.
func TestAllCalls(t *testing.T) {
	all := calls()
	for _, x := range states() {
		for _, op := range all {
			m := modelOf(x.c, x.s)
			want := m.do(op)
			next, r, e := auto.Do(x.c, x.s, op)
			if e != api.OK || r != want || !same(next, m.state()) {
				t.Fatal(x, op, next, r, e, want)
			}
			if !auto.Right(x.c, next) {
				t.Fatal("not right", x, op, next)
			}
			if (r.Errno != api.OK || auto.Reads(op.Code)) && !same(next, x.s) || r.Errno != api.OK && r.Val != 0 {
				t.Fatal("changed", x, op, next, r)
			}
		}
	}
}

// wide is a call of a kind of object, of some of its keys.
func wide(r *rand.Rand, c api.Conf) api.Op {
	first := map[int]int{api.Register: 1, api.Set: 5, api.Dict: 7, api.Order: 7, api.Ballot: 12}[c.Kind]
	op := api.Op{Code: first + r.IntN(5), Key: uint64(r.IntN(2 * c.Cap)), Val: uint64(r.IntN(10))}
	switch {
	case c.Kind == api.Register || c.Kind == api.Order && r.IntN(2) == 0:
		op.Key = word(float64(r.IntN(2*c.Cap) - c.Cap))
		op.Val = word(float64(r.IntN(9)-4) / 4)
	case r.IntN(20) == 0:
		op.Key = someKeys[r.IntN(len(someKeys))]
	}
	if r.IntN(3) == 0 && op.Code >= 7 && op.Code <= 9 { // more is to be put than taken away
		op.Code = 6
		if c.Kind != api.Set {
			op.Code = 11
		}
	}
	if op.Code == api.OpClose && r.IntN(50) != 0 {
		op.Code = api.OpCast
	}
	return op
}

// Many calls, one behind the other, as the model does them; what is read out now and then is what it holds.
func TestManyCalls(t *testing.T) {
	for _, kind := range allKinds {
		for _, n := range []int{1, 2, 5, 40, 256} {
			c := conf(kind, n)
			r, m := chance(uint64(kind*1000+n)), newModel(c)
			s, _ := auto.New(c)
			for i := range 3000 {
				op := wide(r, c)
				want := m.do(op)
				next, told, e := auto.Do(c, s, op)
				if e != api.OK || told != want || (told.Errno != api.OK || auto.Reads(op.Code)) && !same(s, next) {
					t.Fatal(c, i, op, told, want, e)
				}
				s = next
				if i%100 == 0 {
					if !same(s, m.state()) || !auto.Right(c, s) {
						t.Fatal(c, i, s, m.state())
					}
					readOut(t, c, s)
				}
			}
		}
	}
}

// readOut holds the read-out against what stands in a state, asked at once and call by call, and sees the state in it.
func readOut(t *testing.T, c api.Conf, s api.State) resps {
	t.Helper()
	want := out(c, s)
	l, e := auto.Out(c, s)
	if e != api.OK || !slices.Equal(l, want) {
		t.Fatal("out", c, s, l, e)
	}
	var asked resps
	for {
		op, more := auto.Probe(c, asked...)
		if !more {
			break
		}
		next, r, e := auto.Do(c, s, op)
		if e != api.OK || !auto.Reads(op.Code) || !same(next, s) || len(asked) > len(want) {
			t.Fatal("probe", c, s, op, e)
		}
		asked = append(asked, r)
	}
	if !slices.Equal(asked, want) {
		t.Fatal("asked", c, s, asked)
	}
	if got, is := auto.Seen(c, l...); !is || !same(got, s) {
		t.Fatal("seen", c, s, got, is)
	}
	return l
}

func TestReads(t *testing.T) {
	reads := []int{1, 5, 8, 9, 10, 14, 15, 16}
	for code := -300; code <= 600; code++ {
		if auto.Reads(code) != slices.Contains(reads, code) {
			t.Error(code)
		}
	}
	for _, code := range noCodes {
		if auto.Reads(code) {
			t.Error(code)
		}
	}
	for _, code := range []int{api.OpRead, api.OpHas, api.OpNext, api.OpCount, api.OpGet, api.OpTally, api.OpVote, api.OpClosed} {
		if !auto.Reads(code) {
			t.Error(code)
		}
	}
}

func TestProbe(t *testing.T) {
	next := func(key, val uint64) api.Op { return api.Op{Code: api.OpNext, Key: key, Val: val} }
	get := func(key uint64) api.Op { return api.Op{Code: api.OpGet, Key: key} }
	over := api.Op{}
	for _, x := range []struct {
		kind int
		l    resps
		op   api.Op
	}{
		{api.Register, nil, api.Op{Code: api.OpRead}}, {api.Register, resps{{}}, over}, {api.Register, resps{told(5)}, over}, {api.Register, resps{fails(10)}, over}, {api.Register, make(resps, 5), over},
		{api.Set, nil, next(0, 0)}, {api.Set, resps{told(7)}, next(7, 1)}, {api.Set, resps{told(0)}, next(0, 1)}, {api.Set, resps{told(7), told(9)}, next(9, 1)}, {api.Set, resps{told(9), told(7)}, next(7, 1)},
		{api.Set, resps{told(greatest)}, next(greatest, 1)}, {api.Set, resps{told(1), told(2), told(3), told(4), told(5)}, next(5, 1)},
		{api.Set, resps{fails(12)}, over}, {api.Set, resps{told(7), fails(12)}, over}, {api.Set, resps{fails(12), told(7)}, over}, {api.Set, resps{told(1), fails(10), told(7)}, over}, {api.Set, resps{fails(-1)}, over}, {api.Set, resps{told(3), {Errno: 1, Val: 4}}, over},
		{api.Dict, nil, next(0, 0)}, {api.Dict, resps{told(7)}, get(7)}, {api.Dict, resps{told(7), told(8)}, next(7, 1)}, {api.Dict, resps{told(7), fails(12)}, next(7, 1)}, {api.Dict, resps{told(7), told(8), told(9)}, get(9)},
		{api.Dict, resps{told(7), {Errno: 12, Val: 3}, told(greatest), fails(10)}, next(greatest, 1)}, {api.Dict, resps{told(7), fails(12), told(5)}, get(5)},
		{api.Dict, resps{fails(12)}, over}, {api.Dict, resps{fails(12), told(7)}, over}, {api.Dict, resps{fails(12), told(7), told(8)}, over}, {api.Dict, resps{told(7), told(8), fails(12)}, over}, {api.Dict, resps{told(7), told(8), fails(2), told(1)}, over}, {api.Dict, resps{fails(1), told(1), told(2), told(3)}, over},
		{api.Order, nil, next(api.NegInf, 0)}, {api.Order, resps{told(0)}, get(0)}, {api.Order, resps{told(0), told(8)}, next(0, 1)}, {api.Order, resps{told(minusZero)}, get(minusZero)}, {api.Order, resps{told(otherNaN), fails(11)}, next(otherNaN, 1)}, {api.Order, resps{told(0), told(8), told(api.NaN)}, get(api.NaN)},
		{api.Order, resps{fails(12)}, over}, {api.Order, resps{told(0), told(8), fails(12)}, over}, {api.Order, resps{fails(12), told(0)}, over},
		{api.Ballot, nil, api.Op{Code: api.OpClosed}}, {api.Ballot, make(resps, 1), api.Op{Code: api.OpTally, Key: 1}}, {api.Ballot, resps{fails(10)}, api.Op{Code: api.OpTally, Key: 1}}, {api.Ballot, make(resps, 5), api.Op{Code: api.OpTally, Key: 5}}, {api.Ballot, make(resps, 8), api.Op{Code: api.OpTally, Key: 8}},
		{api.Ballot, make(resps, 9), api.Op{Code: api.OpVote}}, {api.Ballot, make(resps, 10), api.Op{Code: api.OpVote, Key: 1}}, {api.Ballot, slices.Repeat(resps{{Errno: 9, Val: 99}}, 11), api.Op{Code: api.OpVote, Key: 2}}, {api.Ballot, make(resps, 12), over}, {api.Ballot, make(resps, 13), over}, {api.Ballot, make(resps, 500), over},
	} {
		op, more := auto.Probe(conf(x.kind, 3), x.l...)
		if op != x.op || more != (x.op != over) {
			t.Error(x.kind, x.l, op, more)
		}
	}
}

func TestReadOut(t *testing.T) {
	for _, x := range []struct {
		kind, n int
		s       api.State
		l       resps
	}{
		{api.Register, 1, api.State{Reg: api.NaN}, resps{told(api.NaN)}},
		{api.Set, 2, keysOnly(), resps{fails(12)}},
		{api.Set, 2, keysOnly(0, api.MaxKey), resps{told(0), told(api.MaxKey), fails(12)}},
		{api.Dict, 2, pairs(3, 12, 4, 0), resps{told(3), told(12), told(4), told(0), fails(12)}},
		{api.Order, 2, pairs(api.NegInf, 1, api.NaN, 2), resps{told(api.NegInf), told(1), told(api.NaN), told(2), fails(12)}},
		{api.Ballot, 3, votes(true, 8, 0, 8), resps{told(1), told(0), told(0), told(0), told(0), told(0), told(0), told(0), told(2), told(8), told(0), told(8)}},
	} {
		if l := readOut(t, conf(x.kind, x.n), x.s); !slices.Equal(l, x.l) {
			t.Error(x, l)
		}
	}
	for _, x := range states() {
		readOut(t, x.c, x.s)
	}
}

// Of what is read out, cut, grown, or with a word turned, no state is seen, or another one, of which just that is told.
func TestTurned(t *testing.T) {
	for _, x := range states() {
		l := out(x.c, x.s)
		for n := range l {
			if s, is := auto.Seen(x.c, l[:n]...); is || !isNothing(s) {
				t.Error("cut", x, n, s)
			}
		}
		for _, r := range (resps{{}, told(1), told(greatest), fails(12)}) {
			if s, is := auto.Seen(x.c, append(slices.Clone(l), r)...); is || !isNothing(s) {
				t.Error("grown", x, r, s)
			}
		}
		for i := range l {
			for _, e := range []api.Errno{-1, 1, 10, 11, 12, 13, math.MaxInt} {
				m := slices.Clone(l)
				m[i].Errno += e
				if s, is := auto.Seen(x.c, m...); is || !isNothing(s) {
					t.Error("error", x, m, s)
				}
			}
			for _, w := range append(slices.Clone(someKeys), l[i].Val^1, l[i].Val^1<<63, l[i].Val^1<<32) {
				m := slices.Clone(l)
				m[i].Val = w
				s, is := auto.Seen(x.c, m...)
				if is != isReadOut(x.c, m) || is && (!auto.Right(x.c, s) || !slices.Equal(out(x.c, s), m)) || !is && !isNothing(s) {
					t.Error("word", x, m, s, is)
				}
			}
		}
	}
}

// isReadOut tells whether something is the read-out of a state, by looking at each of it.
func isReadOut(c api.Conf, l resps) bool {
	switch c.Kind {
	case api.Register:
		return len(l) == 1 && l[0] == told(canonical(l[0].Val))
	case api.Ballot:
		if len(l) != 9+c.Cap || l[0] != told(0) && l[0] != told(1) {
			return false
		}
		var tallies [9]uint64
		for _, r := range l[9:] {
			if r.Errno != 0 || r.Val > 8 {
				return false
			}
			tallies[r.Val]++
		}
		for i := 1; i < 9; i++ {
			if l[i] != told(tallies[i]) {
				return false
			}
		}
		return true
	}
	width := 2
	if c.Kind == api.Set {
		width = 1
	}
	n := len(l) - 1
	if n < 0 || n%width != 0 || n/width > c.Cap || l[n] != fails(12) {
		return false
	}
	m := newModel(c)
	for i, r := range l[:n] {
		isKey := i%width == 0
		if r.Errno != 0 || isKey && c.Kind == api.Order && r.Val != canonical(r.Val) || isKey && c.Kind != api.Order && r.Val > 1<<62 || isKey && i > 0 && !m.ahead(l[i-width].Val, r.Val) {
			return false
		}
	}
	return true
}

func TestNotSeen(t *testing.T) {
	for _, x := range []struct {
		kind int
		l    resps
	}{
		{api.Register, nil}, {api.Register, resps{told(minusZero)}}, {api.Register, resps{told(otherNaN)}}, {api.Register, resps{{Errno: 1, Val: 5}}}, {api.Register, resps{fails(12)}}, {api.Register, make(resps, 2)},
		{api.Set, nil}, {api.Set, resps{told(1)}}, {api.Set, resps{told(2), told(1), fails(12)}}, {api.Set, resps{told(1), told(1), fails(12)}}, {api.Set, resps{told(api.MaxKey + 1), fails(12)}}, {api.Set, resps{fails(11)}}, {api.Set, resps{{Errno: 12, Val: 1}}},
		{api.Set, resps{told(1), told(2), told(3), fails(12)}}, {api.Set, resps{told(1), fails(12), fails(12)}}, {api.Set, resps{fails(12), fails(12)}}, {api.Set, resps{fails(12), told(1)}},
		{api.Dict, nil}, {api.Dict, resps{told(1), fails(12)}}, {api.Dict, resps{told(1), told(2)}}, {api.Dict, resps{told(1), fails(12), fails(12)}}, {api.Dict, resps{told(2), told(0), told(1), told(0), fails(12)}}, {api.Dict, resps{told(1), told(0), told(2), told(0), told(3), told(0), fails(12)}}, {api.Dict, resps{told(1), told(0), fails(12), told(0)}},
		{api.Order, nil}, {api.Order, resps{told(minusZero), told(0), fails(12)}}, {api.Order, resps{told(otherNaN), told(0), fails(12)}}, {api.Order, resps{told(0), told(0), told(api.NegInf), told(0), fails(12)}}, {api.Order, resps{told(0), told(1)}},
		{api.Ballot, nil}, {api.Ballot, make(resps, 1)}, {api.Ballot, make(resps, 8)}, {api.Ballot, make(resps, 9)}, {api.Ballot, make(resps, 10)}, {api.Ballot, make(resps, 12)}, {api.Ballot, append(resps{told(2)}, make(resps, 10)...)}, {api.Ballot, append(make(resps, 10), told(1))}, {api.Ballot, append(make(resps, 10), told(9))}, {api.Ballot, append(make(resps, 10), told(greatest))}, {api.Ballot, append(resps{{}, told(1)}, make(resps, 9)...)},
	} {
		if s, is := auto.Seen(conf(x.kind, 2), x.l...); is || !isNothing(s) {
			t.Error(x, s)
		}
	}
	for _, kind := range allKinds { // what is far too long ends too
		if s, is := auto.Seen(conf(kind, 256), make(resps, 100000)...); is || !isNothing(s) {
			t.Error(kind)
		}
	}
}

// smallStates are all right ones of an object with few keys, and of a small Ballot.
func smallStates(c api.Conf) (out []api.State) {
	if c.Kind == api.Ballot {
		for i := range 9 * 9 * 2 {
			out = append(out, votes(i%2 == 1, i/2%9, i/18))
		}
		return out
	}
	few := words{0, 1, 4, api.MaxKey}
	if c.Kind == api.Order {
		few = words{api.NegInf, word(-1), 0, api.NaN}
	}
	for held := range 16 {
		for vals := range 9 {
			s, v := api.State{}, vals
			for i, k := range few {
				if held>>i&1 == 0 {
					continue
				}
				s.Keys = append(s.Keys, k)
				if c.Kind != api.Set {
					s.Vals = append(s.Vals, words{0, 12, greatest}[v%3])
				}
				v /= 3
			}
			if len(s.Keys) <= c.Cap {
				out = append(out, s)
			}
			if c.Kind == api.Set || len(s.Keys) == 0 {
				break
			}
		}
	}
	return out
}

func TestTheorem(t *testing.T) {
	all := calls()
	for _, c := range []api.Conf{conf(api.Set, 1), conf(api.Set, 2), conf(api.Set, 4), conf(api.Dict, 2), conf(api.Order, 2), conf(api.Ballot, 2)} {
		l := smallStates(c)
		outs := make([]resps, len(l))
		for i, s := range l {
			outs[i] = readOut(t, c, s)
		}
		for i := range l {
			for j := range l {
				if slices.Equal(outs[i], outs[j]) != same(l[i], l[j]) {
					t.Error("alike", c, l[i], l[j])
				}
			}
		}
		for _, s := range l {
			for _, op := range all {
				if op.Val > 2 && op.Val < 1<<40 || op.Key > greatest-1<<60 {
					continue
				}
				m := modelOf(c, s)
				want := m.do(op)
				next, r, e := auto.Do(c, s, op)
				if e != api.OK || r != want || !same(next, m.state()) || !auto.Right(c, next) || (r.Errno != api.OK || auto.Reads(op.Code)) && !same(s, next) {
					t.Fatal(c, s, op, next, r, e)
				}
			}
		}
	}
}

// The order in which keys were put, and what was taken away again, are not to be seen.
func TestNoTrace(t *testing.T) {
	for _, kind := range withKeys {
		c := conf(kind, 4)
		put := api.OpPut
		if kind == api.Set {
			put = api.OpAdd
		}
		var first api.State
		for i, l := range [][]uint64{{1, 2, 3}, {3, 2, 1}, {2, 3, 9, 1}, {9, 1, 3, 2}} {
			s, _ := auto.New(c)
			for _, k := range l {
				s, _, _ = auto.Do(c, s, api.Op{Code: put, Key: k, Val: 10 * k})
			}
			s, _, _ = auto.Do(c, s, api.Op{Code: api.OpDel, Key: 9})
			if i == 0 {
				first = s
			}
			if !same(s, first) {
				t.Error(kind, l, s)
			}
		}
	}
}

func TestExamples(t *testing.T) {
	c := conf(api.Order, 1)
	s, _ := auto.New(c)
	s, _, _ = auto.Do(c, s, api.Op{Code: api.OpPut, Key: minusZero, Val: 44})
	if _, r, e := auto.Do(c, s, api.Op{Code: api.OpGet, Key: 0}); e != api.OK || r != told(44) {
		t.Error(r, e)
	}
	b := conf(api.Ballot, 2)
	s, _ = auto.New(b)
	s, _, _ = auto.Do(b, s, api.Op{Code: api.OpCast, Key: 1, Val: 3})
	s, _, _ = auto.Do(b, s, api.Op{Code: api.OpClose})
	if _, r, e := auto.Do(b, s, api.Op{Code: api.OpCast, Key: 1, Val: 4}); e != api.OK || r != fails(api.ErrClosed) {
		t.Error(r, e)
	}
}

// roomy has the same elements, and room behind them in which other ones stand.
func roomy[T any](l []T, other T) []T {
	out := append(slices.Clone(l), other, other, other)
	return out[:len(l)]
}

func intact[T comparable](l []T, want []T, other T) bool {
	return slices.Equal(l, want) && slices.Equal(l[len(l):len(l)+3], []T{other, other, other})
}

func spoil(s *api.State) {
	for _, l := range [][]uint64{s.Keys[:cap(s.Keys)], s.Vals[:cap(s.Vals)]} {
		for i := range l {
			l[i] = 0xbad
		}
	}
	for i := range s.Votes[:cap(s.Votes)] {
		s.Votes[:cap(s.Votes)][i] = -5
	}
}

// Nothing that is handed in is written into, and what comes out is nobody else's.
func TestMemory(t *testing.T) {
	all := calls()
	for _, x := range states() {
		hand := api.State{Reg: x.s.Reg, Keys: roomy(x.s.Keys, 77), Vals: roomy(x.s.Vals, 77), Votes: roomy(x.s.Votes, 7), Closed: x.s.Closed}
		untouched := func() bool {
			return intact(hand.Keys, x.s.Keys, 77) && intact(hand.Vals, x.s.Vals, 77) && intact(hand.Votes, x.s.Votes, 7)
		}
		for i := 0; i < len(all); i += 7 {
			one, _, _ := auto.Do(x.c, hand, all[i])
			two, _, _ := auto.Do(x.c, hand, all[i])
			want := deep(two)
			spoil(&one)
			if !same(two, want) || !untouched() {
				t.Fatal("do", x, all[i])
			}
		}
		told := roomy(out(x.c, x.s), api.Resp{Val: 99})
		l, _ := auto.Out(x.c, hand)
		m, _ := auto.Out(x.c, hand)
		for i := range l[:cap(l)] {
			l[:cap(l)][i] = api.Resp{Val: 0xbad}
		}
		one, _ := auto.Seen(x.c, told...)
		two, _ := auto.Seen(x.c, told...)
		spoil(&one)
		auto.Probe(x.c, told...)
		if !slices.Equal(m, told) || !untouched() || !same(two, x.s) || !intact(told, out(x.c, x.s), api.Resp{Val: 99}) {
			t.Error("read-out", x, m, two)
		}
		a, _ := auto.New(x.c)
		b, _ := auto.New(x.c)
		want := deep(b)
		spoil(&a)
		if c, _ := auto.New(x.c); !same(b, want) || !same(c, want) {
			t.Error("new", x.c, b, c)
		}
	}
}

// No two lists of one answer share memory.
func TestUnshared(t *testing.T) {
	for _, kind := range []int{api.Dict, api.Order} {
		c := conf(kind, 4)
		for _, op := range []api.Op{{Code: api.OpPut, Key: 6, Val: 60}, {Code: api.OpPut, Key: 3, Val: 0}, {Code: api.OpDel, Key: 3}, {Code: api.OpCount}} {
			s, _, _ := auto.Do(c, pairs(1, 10, 3, 30, 5, 50), op)
			vals := slices.Clone(s.Vals)
			for i := range s.Keys[:cap(s.Keys)] {
				s.Keys[:cap(s.Keys)][i] = 0xbad
			}
			if !slices.Equal(s.Vals, vals) {
				t.Error(kind, op)
			}
		}
		s, _ := auto.Seen(c, told(1), told(10), told(3), told(30), fails(12))
		_ = append(s.Keys, 0xbad)
		if !same(s, pairs(1, 10, 3, 30)) {
			t.Error(kind, s)
		}
	}
}

// What is answered hangs on what is asked alone, whoever asks at the same time.
func TestSameForTheSame(t *testing.T) {
	var all sync.WaitGroup
	for range 4 {
		all.Go(func() {
			for _, x := range states() {
				for _, op := range []api.Op{{Code: api.OpPut, Key: 6, Val: 1}, {Code: api.OpAdd, Key: 6}, {Code: api.OpDel}, {Code: api.OpCast, Val: 1}, {Code: api.OpSum, Val: word(1)}} {
					m := modelOf(x.c, x.s)
					want := m.do(op)
					if s, r, e := auto.Do(x.c, x.s, op); e != api.OK || r != want || !same(s, m.state()) {
						t.Error(x, op)
					}
				}
				if l, e := auto.Out(x.c, x.s); e != api.OK || !slices.Equal(l, out(x.c, x.s)) {
					t.Error(x)
				}
			}
		})
	}
	all.Wait()
}

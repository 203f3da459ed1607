package treap_test

import (
	"math"
	"math/rand/v2"
	"slices"
	"sync"
	"testing"

	"whitewash/api"
	"whitewash/mix"
	"whitewash/treap"
)

type (
	words = []uint64
	link  = [2]int
	links = []link
)

// tree is keys, and what is said to be their tree.
type tree struct {
	keys  words
	root  int
	links links
}

const (
	most     = 256
	greatest = math.MaxUint64
)

// no number of a key, however many there are
var noNumbers = []int{-1, -2, -most, math.MinInt, most + 1, 1 << 20, 1 << 32, math.MaxInt}

// chance is the same one each time.
func chance(seed uint64) *rand.Rand { return rand.New(rand.NewPCG(seed, 1)) }

// scattered is so many keys, rising, from all over the words.
func scattered(n int) words {
	c, seen := chance(uint64(n)), map[uint64]bool{}
	var out words
	for len(out) < n {
		if k := c.Uint64(); !seen[k] {
			seen[k] = true
			out = append(out, k)
		}
	}
	slices.Sort(out)
	return out
}

// near is so many keys, one next to the other, from the first one on.
func near(from uint64, n int) words {
	var out words
	for i := range n {
		out = append(out, from+uint64(i))
	}
	return out
}

// chain is so many keys, of which each goes Before the next one, if falling, else the next one Before it; their tree is as deep as they are many. Each is sought in a band of its own.
func chain(n int, falling bool) words {
	var out words
	band := uint64(greatest)/uint64(n) + 1
	for i := range n {
		mixed := uint64(i) * band
		if falling {
			mixed = uint64(n-1-i) * band
		}
		for mix.Unmix(mixed)/band != uint64(i) {
			mixed++
		}
		out = append(out, mix.Unmix(mixed))
	}
	return out
}

// someKeys are keys of which trees are made.
var someKeys = sync.OnceValue(func() []words {
	out := []words{
		nil, {0}, {9}, {greatest}, {0, 7}, {0, greatest}, {greatest - 1, greatest}, {0, 1, 2}, {1, 2, 3, 4, 5, 6, 7},
		{0, 1 << 62, 1 << 63, greatest}, near(0, most), near(greatest-most+1, most), near(1<<63-100, 200),
		chain(2, true), chain(2, false), chain(17, true), chain(17, false), chain(most, true), chain(most, false),
	}
	for _, n := range []int{1, 2, 3, 4, 5, 8, 16, 40, 100, most - 1, most} {
		out = append(out, scattered(n))
	}
	return out
})

// sought is what is looked for among keys: each of them, its neighbours, and both ends.
func sought(keys words) words {
	out := words{0, 1, 1 << 63, greatest - 1, greatest}
	for _, k := range keys {
		out = append(out, k-1, k, k+1)
	}
	return out
}

// stacked is the tree of keys, made in another way than from its top: key by key, from the left to the right; each takes to its left what it goes Before.
func stacked(keys words) tree {
	out := tree{keys, 0, make(links, len(keys))}
	var spine []int // the numbers down to the right
	for i, k := range keys {
		taken := 0
		for len(spine) > 0 && mix.Before(k, keys[spine[len(spine)-1]-1]) {
			taken = spine[len(spine)-1]
			spine = spine[:len(spine)-1]
		}
		out.links[i][0] = taken
		if len(spine) > 0 {
			out.links[spine[len(spine)-1]-1][1] = i + 1
		}
		spine = append(spine, i+1)
	}
	if len(spine) > 0 {
		out.root = spine[0]
	}
	return out
}

func build(t *testing.T, keys ...uint64) tree {
	t.Helper()
	root, l, no := treap.Build(keys...)
	if no != api.OK {
		t.Fatalf("Build(%v): error %d", keys, no)
	}
	return tree{keys, root, l}
}

func (a tree) right() bool { return treap.Right(a.keys, a.root, a.links) }

func (a tree) find(key uint64) (int, bool) { return treap.Find(a.keys, a.root, a.links, key) }

func (a tree) next(key uint64) (int, bool) { return treap.Next(a.keys, a.root, a.links, key) }

func (a tree) path(key uint64) []int { return treap.Path(a.keys, a.root, a.links, key) }

// with is the tree, in memory of its own, and one link another one.
func (a tree) with(i, side, to int) tree {
	a.links = slices.Clone(a.links)
	a.links[i][side] = to
	return a
}

// isNothing tells whether a tree is not right, and nothing is found in it.
func isNothing(a tree, keys ...uint64) bool {
	if a.right() {
		return false
	}
	for _, k := range keys {
		found, is := a.find(k)
		next, has := a.next(k)
		if found != 0 || is || next != 0 || has || len(a.path(k)) != 0 {
			return false
		}
	}
	return true
}

// wrongTrees are trees that are not right.
func wrongTrees() map[string]tree {
	two := tree{words{0, 7}, 2, links{{0, 0}, {1, 0}}}
	seven := stacked(near(1, 7))
	return map[string]tree{
		"a top without keys":            {nil, 1, nil},
		"a top below 0 without keys":    {nil, -1, nil},
		"a link without keys":           {nil, 0, make(links, 1)},
		"a top and a link without keys": {nil, 1, make(links, 1)},
		"no link of one":                {words{5}, 1, nil},
		"no top of one":                 {words{5}, 0, make(links, 1)},
		"one to the left of itself":     {words{5}, 1, links{{1, 0}}},
		"one to the right of itself":    {words{5}, 1, links{{0, 1}}},
		"links behind all keys":         {words{5}, 1, links{{2, 2}}},
		"links below 0":                 {words{5}, 1, links{{-1, -1}}},
		"links far away":                {words{5}, 1, links{{math.MinInt, math.MaxInt}}},
		"the other one on top":          {two.keys, 1, links{{0, 2}, {0, 0}}},
		"the left one to the right":     {two.keys, 2, links{{0, 0}, {0, 1}}},
		"the left one on both sides":    {two.keys, 2, links{{0, 0}, {1, 1}}},
		"round and round":               {two.keys, 2, links{{0, 2}, {1, 0}}},
		"the left one left away":        {two.keys, 2, links{{0, 0}, {0, 0}}},
		"fewer links":                   {two.keys, 2, two.links[1:]},
		"links of all but the last":     {two.keys, 2, links{{0, 0}}},
		"a link more behind":            {two.keys, 2, append(slices.Clone(two.links), link{})},
		"a link more ahead":             {two.keys, 2, append(links{{0, 0}}, two.links...)},
		"many links":                    {two.keys, 2, append(slices.Clone(two.links), make(links, 1<<20)...)},
		"the tree of one key more":      {seven.keys[:6], seven.root, seven.links},
		"the tree of other keys":        {near(0, 7), seven.root, seven.links},
		"falling keys":                  {words{7, 0}, 1, links{{0, 2}, {0, 0}}},
		"falling keys, as though not":   {words{7, 0}, 2, two.links},
		"keys alike":                    {words{5, 5}, 1, links{{0, 2}, {0, 0}}},
		"keys alike, the other one up":  {words{5, 5}, 2, links{{0, 0}, {1, 0}}},
		"the last key alike":            {words{1, 2, 3, 4, 5, 6, 7, 7}, 2, append(slices.Clone(seven.links), link{})},
		"keys alike, and no tree":       {words{5, 5}, 0, nil},
		"falling keys, and no tree":     {words{7, 0}, 0, nil},
		"too many keys, and no tree":    {near(1, most+1), 0, nil},
		"a key more than may be":        stacked(near(1, most+1)),
		"more keys by far":              stacked(near(1, 1<<16)),
		"more keys than may be, alike":  {make(words, most+1), 1, make(links, most+1)},
	}
}

// H1: Build, Right

func TestBuild(t *testing.T) {
	for _, x := range []tree{
		{nil, 0, nil},
		{words{}, 0, nil},
		{words{0}, 1, links{{0, 0}}},
		{words{9}, 1, links{{0, 0}}},
		{words{greatest}, 1, links{{0, 0}}},
		{words{1, 2}, 2, links{{0, 0}, {1, 0}}},
		{words{0, greatest}, 2, links{{0, 0}, {1, 0}}},
		{words{6, 7}, 1, links{{0, 2}, {0, 0}}},
		{words{0, 1, 2}, 3, links{{0, 0}, {1, 0}, {2, 0}}},
		{words{1, 2, 3}, 2, links{{0, 0}, {1, 3}, {0, 0}}},
		{words{1, 2, 3, 4, 5, 6, 7}, 2, links{{0, 0}, {1, 6}, {0, 0}, {3, 5}, {0, 0}, {4, 7}, {0, 0}}},
		{words{10, 20, 30, 40, 50}, 4, links{{0, 0}, {1, 3}, {0, 0}, {2, 5}, {0, 0}}},
		{words{0, 1 << 62, 1 << 63, greatest}, 4, links{{0, 0}, {1, 0}, {2, 0}, {3, 0}}},
	} {
		if root, l, no := treap.Build(x.keys...); no != api.OK || root != x.root || !slices.Equal(l, x.links) {
			t.Errorf("Build(%v): %d, %v, %d, not %d, %v", x.keys, root, l, no, x.root, x.links)
		}
		if !x.right() {
			t.Errorf("Right(%v, %d, %v): false", x.keys, x.root, x.links)
		}
	}
}

func TestBuildOfManyKeys(t *testing.T) {
	for _, keys := range someKeys() {
		got, want := build(t, keys...), stacked(keys)
		if got.root != want.root || !slices.Equal(got.links, want.links) || !want.right() {
			t.Errorf("%v: %d, %v, not %d, %v", keys, got.root, got.links, want.root, want.links)
		}
	}
}

func TestBuildOfChains(t *testing.T) {
	down, up := make(links, most), make(links, most)
	for i := range most {
		down[i][1] = (i + 2) % (most + 1)
		up[i][0] = i
	}
	if a := build(t, chain(most, true)...); a.root != 1 || !slices.Equal(a.links, down) {
		t.Errorf("each Before the next one: %d, %v", a.root, a.links)
	}
	if a := build(t, chain(most, false)...); a.root != most || !slices.Equal(a.links, up) {
		t.Errorf("each behind the next one: %d, %v", a.root, a.links)
	}
}

func TestBuildRefuses(t *testing.T) {
	lastAlike, lastLess := near(1, most), near(1, most)
	lastAlike[most-1], lastLess[most-1] = lastAlike[most-2], 0
	for name, x := range map[string]struct {
		keys words
		no   api.Errno
	}{
		"one more than may be":            {near(0, most+1), api.ErrLong},
		"many more":                       {near(0, 1<<20), api.ErrLong},
		"one more, alike":                 {make(words, most+1), api.ErrLong}, // ErrLong is named first
		"one more, the last one less":     {append(near(1, most), 0), api.ErrLong},
		"one more, the first one greater": {append(words{greatest}, near(0, most)...), api.ErrLong},
		"two alike":                       {words{5, 5}, api.ErrArg},
		"two of 0":                        {words{0, 0}, api.ErrArg},
		"two of the greatest":             {words{greatest, greatest}, api.ErrArg},
		"two falling":                     {words{3, 2}, api.ErrArg},
		"falling to 0":                    {words{greatest, 0}, api.ErrArg},
		"greater as a number with a sign": {words{1 << 63, 1}, api.ErrArg},
		"less than that ahead alone":      {words{1, 5, 4}, api.ErrArg},
		"the first one alike":             {words{1, 1, 2, 3}, api.ErrArg},
		"256 alike":                       {make(words, most), api.ErrArg},
		"256, the last one alike":         {lastAlike, api.ErrArg},
		"256, the last one less":          {lastLess, api.ErrArg},
		"256":                             {near(1, most), api.OK},
		"two":                             {words{1, 1 << 63}, api.OK},
	} {
		root, l, no := treap.Build(x.keys...)
		if no != x.no || no != api.OK && (root != 0 || len(l) != 0) {
			t.Errorf("%s: %d, %d links, error %d, not %d", name, root, len(l), no, x.no)
		}
	}
}

func TestRightRefuses(t *testing.T) {
	for name, x := range wrongTrees() {
		if x.right() {
			t.Errorf("%s: right", name)
		}
	}
}

// Whatever number stands in the place of one that is right.
func TestRightRefusesAnyOtherNumber(t *testing.T) {
	for _, keys := range []words{{9}, {0, 7}, {1, 2, 3, 4, 5, 6, 7}, scattered(30), chain(17, true), chain(17, false)} {
		a := build(t, keys...)
		numbers := slices.Clone(noNumbers)
		for n := range len(keys) + 2 {
			numbers = append(numbers, n)
		}
		for _, n := range numbers {
			if (tree{keys, n, a.links}).right() != (n == a.root) {
				t.Errorf("%v: top %d: right is %v", keys, n, n != a.root)
			}
			for i := range keys {
				for side := range 2 {
					if a.with(i, side, n).right() != (n == a.links[i][side]) {
						t.Errorf("%v: %d as link %d of %d: right is %v", keys, n, side, i+1, n != a.links[i][side])
					}
				}
			}
		}
	}
}

func TestRightRefusesFewerAndMore(t *testing.T) {
	for _, keys := range someKeys() {
		a := build(t, keys...)
		if (tree{keys, a.root, append(slices.Clone(a.links), link{})}).right() {
			t.Errorf("%v: one link more: right", keys)
		}
		for n := range a.links {
			if (tree{keys, a.root, a.links[:n]}).right() || (tree{keys, a.root, a.links[n+1:]}).right() {
				t.Errorf("%v: fewer links: right", keys)
			}
			if (tree{keys[:n], a.root, a.links}).right() || (tree{keys[n+1:], a.root, a.links}).right() {
				t.Errorf("%v: fewer keys: right", keys)
			}
		}
	}
}

// H2: Find, Next

func TestFindAndNext(t *testing.T) {
	a := tree{words{10, 20, 30, 40, 50}, 4, links{{0, 0}, {1, 3}, {0, 0}, {2, 5}, {0, 0}}}
	for _, x := range []struct {
		a           tree
		key         uint64
		found, next int
	}{
		{tree{}, 0, 0, 0},
		{tree{}, greatest, 0, 0},
		{tree{words{0}, 1, make(links, 1)}, 0, 1, 1},
		{tree{words{0}, 1, make(links, 1)}, 1, 0, 0},
		{tree{words{greatest}, 1, make(links, 1)}, 0, 0, 1},
		{tree{words{greatest}, 1, make(links, 1)}, greatest, 1, 1},
		{a, 0, 0, 1},
		{a, 9, 0, 1},
		{a, 10, 1, 1},
		{a, 11, 0, 2},
		{a, 20, 2, 2},
		{a, 21, 0, 3},
		{a, 30, 3, 3},
		{a, 31, 0, 4},
		{a, 40, 4, 4},
		{a, 41, 0, 5},
		{a, 50, 5, 5},
		{a, 51, 0, 0},
		{a, 1 << 63, 0, 0},
		{a, greatest, 0, 0},
	} {
		if at, is := x.a.find(x.key); at != x.found || is != (x.found != 0) {
			t.Errorf("Find of %d in %v: %d, %v, not %d", x.key, x.a, at, is, x.found)
		}
		if at, is := x.a.next(x.key); at != x.next || is != (x.next != 0) {
			t.Errorf("Next of %d in %v: %d, %v, not %d", x.key, x.a, at, is, x.next)
		}
	}
}

func TestFindAndNextAmongMany(t *testing.T) {
	for _, keys := range someKeys() {
		a := stacked(keys)
		for _, key := range sought(keys) {
			found := 1 + slices.Index(keys, key)
			next := 1 + slices.IndexFunc(keys, func(k uint64) bool { return k >= key })
			if at, is := a.find(key); at != found || is != (found != 0) {
				t.Errorf("%v: Find of %d: %d, %v, not %d", keys, key, at, is, found)
			}
			if at, is := a.next(key); at != next || is != (next != 0) {
				t.Errorf("%v: Next of %d: %d, %v, not %d", keys, key, at, is, next)
			}
		}
	}
}

func TestNothingIsFoundInWrongTrees(t *testing.T) {
	for name, x := range wrongTrees() {
		if !isNothing(x, 0, 1, 2, 4, 5, 6, 7, 8, 1<<63, greatest) {
			t.Errorf("%s: something is found", name)
		}
	}
}

func TestNothingIsFoundIfOneNumberIsWrong(t *testing.T) {
	a := stacked(near(1, 7))
	for _, n := range append(slices.Clone(noNumbers), 0, 1, 2, 3, 4, 5, 6, 7, 8) {
		if n != a.root && !isNothing(tree{a.keys, n, a.links}, sought(a.keys)...) {
			t.Errorf("top %d: something is found", n)
		}
		for i := range a.keys {
			for side := range 2 {
				if n != a.links[i][side] && !isNothing(a.with(i, side, n), sought(a.keys)...) {
					t.Errorf("%d as link %d of %d: something is found", n, side, i+1)
				}
			}
		}
	}
}

// H3: Path

func TestPath(t *testing.T) {
	a := tree{words{1, 2, 3, 4, 5, 6, 7}, 2, links{{0, 0}, {1, 6}, {0, 0}, {3, 5}, {0, 0}, {4, 7}, {0, 0}}}
	b := tree{words{10, 20, 30, 40, 50}, 4, links{{0, 0}, {1, 3}, {0, 0}, {2, 5}, {0, 0}}}
	for _, x := range []struct {
		a    tree
		key  uint64
		want []int
	}{
		{tree{}, 0, nil},
		{tree{}, 5, nil},
		{tree{words{9}, 1, make(links, 1)}, 9, []int{1}},
		{tree{words{9}, 1, make(links, 1)}, 8, []int{1}},
		{tree{words{9}, 1, make(links, 1)}, greatest, []int{1}},
		{a, 0, []int{2, 1}},
		{a, 1, []int{2, 1}},
		{a, 2, []int{2}},
		{a, 3, []int{2, 6, 4, 3}},
		{a, 4, []int{2, 6, 4}},
		{a, 5, []int{2, 6, 4, 5}},
		{a, 6, []int{2, 6}},
		{a, 7, []int{2, 6, 7}},
		{a, 8, []int{2, 6, 7}},
		{a, greatest, []int{2, 6, 7}},
		{b, 5, []int{4, 2, 1}},
		{b, 15, []int{4, 2, 1}},
		{b, 20, []int{4, 2}},
		{b, 25, []int{4, 2, 3}},
		{b, 39, []int{4, 2, 3}},
		{b, 40, []int{4}},
		{b, 45, []int{4, 5}},
	} {
		if got := x.a.path(x.key); !slices.Equal(got, x.want) {
			t.Errorf("Path to %d in %v: %v, not %v", x.key, x.a, got, x.want)
		}
	}
}

// met is the way to a key, told without links: those that go Before all between them and the key, and it itself; who goes Before is first.
func met(keys words, key uint64) []int {
	var out []int
	for i, k := range keys {
		is := true
		for _, other := range keys {
			between := k < other && other <= key || key <= other && other < k
			is = is && !(between && mix.Before(other, k))
		}
		if is {
			out = append(out, i+1)
		}
	}
	slices.SortFunc(out, func(a, b int) int {
		if mix.Before(keys[a-1], keys[b-1]) {
			return -1
		}
		return 1
	})
	return out
}

func TestPathAmongMany(t *testing.T) {
	for _, keys := range someKeys() {
		a := stacked(keys)
		if len(keys) > 100 {
			keys = append(slices.Clone(keys[:10]), keys[len(keys)-10:]...)
		}
		for _, key := range sought(keys) {
			if got, want := a.path(key), met(a.keys, key); !slices.Equal(got, want) {
				t.Errorf("%v: Path to %d: %v, not %v", a.keys, key, got, want)
			}
		}
	}
}

func TestPathDownChains(t *testing.T) {
	for _, falling := range []bool{true, false} {
		a := stacked(chain(most, falling))
		last := most
		if !falling {
			last = 1
		}
		p := a.path(a.keys[last-1])
		if len(p) != most || p[most-1] != last {
			t.Errorf("falling %v: %v", falling, p)
		}
		if top := a.path(a.keys[a.root-1]); !slices.Equal(top, []int{a.root}) {
			t.Errorf("falling %v: to the top: %v", falling, top)
		}
	}
}

// H4: one tree of the same keys

func TestExample1(t *testing.T) {
	for _, k := range []uint64{0, 1, 7, greatest} {
		if a := build(t, k); a.root != 1 || !slices.Equal(a.links, links{{0, 0}}) {
			t.Errorf("%d: %d, %v", k, a.root, a.links)
		}
	}
	if !mix.Before(7, 0) {
		t.Error("7 does not go Before 0")
	}
	if a := build(t, 0, 7); a.root != 2 || !slices.Equal(a.links, links{{0, 0}, {1, 0}}) {
		t.Errorf("0 and 7: %d, %v", a.root, a.links)
	}
}

// inOrder is the numbers of a tree, from its left to its right; false, if one is no number of a key, or there are more than keys: what goes round does not end.
func inOrder(a tree) ([]int, bool) {
	var out []int
	var walk func(at, deep int) bool
	walk = func(at, deep int) bool {
		if at == 0 {
			return true
		}
		if at < 0 || at > len(a.keys) || at > len(a.links) || deep > len(a.keys) || !walk(a.links[at-1][0], deep+1) {
			return false
		}
		out = append(out, at)
		return walk(a.links[at-1][1], deep+1)
	}
	is := walk(a.root, 0)
	return out, is
}

// isOfKeys tells whether a tree has the keys, from its left to its right, in their order.
func isOfKeys(a tree) bool {
	l, is := inOrder(a)
	for i, at := range l {
		is = is && at == i+1
	}
	return is && len(l) == len(a.keys) && len(a.links) == len(a.keys)
}

// isInRank tells whether no key goes Before that from which it hangs.
func isInRank(a tree) bool {
	for i, both := range a.links {
		for _, at := range both {
			if at != 0 && mix.Before(a.keys[at-1], a.keys[i]) {
				return false
			}
		}
	}
	return true
}

// choices tells all lists of so many numbers from one to another one.
func choices(n, from, to int, tell func([]int)) {
	l := make([]int, n)
	var set func(i int)
	set = func(i int) {
		if i == n {
			tell(l)
			return
		}
		for x := from; x <= to; x++ {
			l[i] = x
			set(i + 1)
		}
	}
	set(0)
}

// Of all numbers that may stand in a small tree.
func TestRightOfAllSmallTrees(t *testing.T) {
	for _, keys := range []words{nil, {5}, {0, 7}, {6, 7}, {0, greatest}, {1, 2, 3}, {0, 1, 2}, {5, 6, 7}, {2, 3, 9}} {
		n, rights := len(keys), 0
		choices(2*n+1, -1, n+1, func(l []int) {
			a := tree{keys, l[0], make(links, n)}
			for i := range n {
				a.links[i] = link{l[2*i+1], l[2*i+2]}
			}
			want := isOfKeys(a) && isInRank(a)
			if a.right() != want {
				t.Errorf("Right(%v, %d, %v): %v", a.keys, a.root, a.links, !want)
			}
			if want {
				rights++
			}
		})
		if rights != 1 {
			t.Errorf("%v: %d trees are right", keys, rights)
		}
	}
}

// shapes tells all trees that have the keys from one number to another one in their order: each may be the top.
func shapes(a tree, from, to int, tell func(top int)) {
	if from > to {
		tell(0)
		return
	}
	for top := from; top <= to; top++ {
		shapes(a, from, top-1, func(left int) {
			shapes(a, top+1, to, func(right int) {
				a.links[top-1] = link{left, right}
				tell(top)
			})
		})
	}
}

func TestOneOfAllShapesIsRight(t *testing.T) {
	for _, keys := range []words{near(1, 4), near(0, 5), scattered(6), scattered(8), chain(8, true), chain(8, false), {0, 1 << 62, 1 << 63, greatest}} {
		a := tree{keys, 0, make(links, len(keys))}
		all, rights := 0, 0
		shapes(a, 1, len(keys), func(top int) {
			a.root = top
			all++
			if !isOfKeys(a) {
				t.Fatalf("%v: no tree of the keys", a)
			}
			if a.right() {
				rights++
			}
			if a.right() != isInRank(a) {
				t.Errorf("Right(%v, %d, %v): %v", a.keys, a.root, a.links, a.right())
			}
		})
		if all < 14 || rights != 1 {
			t.Errorf("%v: of %d trees %d are right", keys, all, rights)
		}
	}
}

func TestTreesHaveKeysInOrderAndInRank(t *testing.T) {
	for _, keys := range someKeys() {
		if a := build(t, keys...); !isOfKeys(a) || !isInRank(a) {
			t.Errorf("%v: %d, %v", keys, a.root, a.links)
		}
	}
}

// hangs tells whether what has that top, somewhere in a tree, is the tree of its own keys.
func hangs(t *testing.T, a tree, top int) bool {
	l, is := inOrder(tree{a.keys, top, a.links})
	if !is || len(l) == 0 {
		return is && top == 0
	}
	ahead := l[0] - 1
	part := build(t, a.keys[ahead:ahead+len(l)]...)
	for i, both := range part.links {
		for side, at := range both {
			if at != 0 {
				at += ahead
			}
			is = is && l[i] == ahead+i+1 && a.links[ahead+i][side] == at
		}
	}
	return is && part.root+ahead == top
}

func TestWhatHangsIsATree(t *testing.T) {
	for _, keys := range someKeys() {
		a := build(t, keys...)
		for i, both := range a.links {
			if !hangs(t, a, both[0]) || !hangs(t, a, both[1]) {
				t.Errorf("%v: what hangs from %d is not the tree of its keys", keys, i+1)
			}
		}
	}
}

// What is handed in, what comes out (R3), and that it is the same each time (R4)

func TestNothingHandedInIsWrittenInto(t *testing.T) {
	all := wrongTrees()
	all["of seven"], all["of 256"], all["of one"] = stacked(near(1, 7)), stacked(scattered(most)), stacked(words{5})
	for name, x := range all {
		keys, l := append(slices.Clone(x.keys), 77), append(slices.Clone(x.links), link{77, 77})
		wantKeys, wantLinks := slices.Clone(keys), slices.Clone(l)
		a := tree{keys[:len(x.keys)], x.root, l[:len(x.links)]}
		_, built, _ := treap.Build(a.keys...)
		spoil(built, link{99, 99})
		for _, key := range []uint64{0, 1, 4, 5, 8} {
			a.right()
			a.find(key)
			a.next(key)
			spoil(a.path(key), 99)
		}
		if !slices.Equal(keys, wantKeys) || !slices.Equal(l, wantLinks) {
			t.Errorf("%s: what was handed in is another one now", name)
		}
	}
}

// spoil writes into a list, and into all the room that it has.
func spoil[T any](l []T, x T) {
	l = l[:cap(l)]
	for i := range l {
		l[i] = x
	}
}

func TestAnswersShareNothing(t *testing.T) {
	keys := near(1, 7)
	a, b, want := build(t, keys...), build(t, keys...), stacked(keys)
	spoil(a.links, link{99, 99})
	if !slices.Equal(b.links, want.links) {
		t.Error("links were changed by others", b.links)
	}
	p, q := want.path(3), want.path(3)
	spoil(p, 99)
	if !slices.Equal(q, []int{2, 6, 4, 3}) || !slices.Equal(want.path(3), q) {
		t.Error("a path was changed by another one", q)
	}
}

func TestTheSameForTheSame(t *testing.T) {
	keys := scattered(most)
	want := build(t, keys...)
	way := want.path(keys[100])
	for range 20 {
		if got := build(t, keys...); got.root != want.root || !slices.Equal(got.links, want.links) {
			t.Fatal("another tree of the same keys")
		}
		if got := want.path(keys[100]); !slices.Equal(got, way) {
			t.Fatal("another path in the same tree")
		}
	}
}

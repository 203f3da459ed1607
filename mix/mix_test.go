package mix_test

import (
	"math"
	"math/big"
	"slices"
	"testing"

	"whitewash/mix"
)

// mixed are words and their mixed ones: the chapter's examples, edges of 64 bits and of each fold, and mixed ones at such edges.
var mixed = []struct{ word, mixed uint64 }{
	{0, 0},
	{0x9e3779b97f4a7c15, 0xe220a8397b1dcdaf},
	{0x3c6ef372fe94f82a, 0x6e789e6aa1b965f4},
	{1, 0x5692161d100b05e5},
	{2, 0xdbd238973a2b148a},
	{3, 0x1e535eede31428f0},
	{1 << 27, 0xf5e56547bf03e35f},
	{1 << 30, 0x2ba0091cc9e3ceff},
	{1 << 31, 0xec105bf588587c9f},
	{1<<32 - 1, 0x8b32c408e8c2c97c},
	{1 << 32, 0xd820b7e910b0f93f},
	{1 << 62, 0x12e13752bce754c5},
	{1<<63 - 1, 0x5a682afe7965debd},
	{1 << 63, 0x25c26ea579cea98a},
	{1<<64 - 2, 0xda26e52fa3730902},
	{1<<64 - 1, 0xb4d055fcf2cbbd7b},
	{0x966dbfc16913c5d2, 1},
	{0x2cdb7f86d2278bb5, 2},
	{0x501932b1ed65ca7c, 1 << 31},
	{0xa0d6349ed189bf84, 1 << 32},
	{0x1d6fac32c80805f8, 1<<33 - 1},
	{0xce256ba94d67d15a, 1 << 63},
	{0xab87026d85c1ddd2, 1<<63 - 1},
	{0xcf9a04affa6badc0, 1<<64 - 1},
	{0xa22722f98cca6ea9, 0x0123456789abcdef},
}

// scattered are n words, the same ones each time, some of them with few bits set, at either end.
func scattered(n int) []uint64 {
	ws := make([]uint64, n)
	x := uint64(88172645463325252)
	for i := range ws {
		x ^= x << 13
		x ^= x >> 7
		x ^= x << 17
		switch i % 4 {
		case 0:
			ws[i] = x
		case 1:
			ws[i] = x >> 44
		case 2:
			ws[i] = x << 44
		case 3:
			ws[i] = 1 << (x % 64)
		}
	}
	return ws
}

// edges are the words of mixed, either side.
func edges() []uint64 {
	var ws []uint64
	for _, x := range mixed {
		ws = append(ws, x.word, x.mixed)
	}
	return ws
}

// asWritten is B1's own sentence, done by whole numbers without a bound: another way to the same word.
func asWritten(w uint64) uint64 {
	bound := new(big.Int).Lsh(big.NewInt(1), 64)
	x := new(big.Int).SetUint64(w)
	fold := func(n uint) { x.Xor(x, new(big.Int).Rsh(x, n)) }
	times := func(f uint64) { x.Mod(x.Mul(x, new(big.Int).SetUint64(f)), bound) }
	fold(30)
	times(0xbf58476d1ce4e5b9)
	fold(27)
	times(0x94d049bb133111eb)
	fold(31)
	return x.Uint64()
}

// B1

func TestMix(t *testing.T) {
	for _, x := range mixed {
		if got := mix.Mix(x.word); got != x.mixed {
			t.Errorf("Mix(%#x) = %#x, not %#x", x.word, got, x.mixed)
		}
	}
}

func TestUnmix(t *testing.T) {
	for _, x := range mixed {
		if got := mix.Unmix(x.mixed); got != x.word {
			t.Errorf("Unmix(%#x) = %#x, not %#x", x.mixed, got, x.word)
		}
	}
}

func TestMixIsAsWritten(t *testing.T) {
	for _, w := range append(edges(), scattered(2000)...) {
		if got, want := mix.Mix(w), asWritten(w); got != want {
			t.Errorf("Mix(%#x) = %#x, not %#x", w, got, want)
		}
		if got := mix.Unmix(w); asWritten(got) != w {
			t.Errorf("Unmix(%#x) = %#x, which is mixed %#x", w, got, asWritten(got))
		}
	}
}

// B2

func TestSlot(t *testing.T) {
	for _, x := range []struct {
		word uint64
		m    int
		slot int
	}{
		{0, 1, 0}, {0, 2, 0}, {0, 3, 0}, {0, 4, 0}, {0, 7, 0}, {0, 16, 0}, {0, 100, 0}, {0, 256, 0}, {0, 1 << 20, 0}, {0, 1 << 40, 0}, {0, 1<<62 + 1, 0}, {0, math.MaxInt, 0},
		{1, 1, 0}, {1, 2, 1}, {1, 3, 1}, {1, 4, 1}, {1, 7, 6}, {1, 16, 5}, {1, 100, 89}, {1, 256, 229}, {1, 1 << 20, 722405}, {1, 1 << 40, 124823209445}, {1, 1<<62 + 1, 1626386729513190884}, {1, math.MaxInt, 6238072747940578789},
		{5, 1, 0}, {5, 2, 0}, {5, 3, 0}, {5, 4, 0}, {5, 7, 2}, {5, 16, 12}, {5, 100, 32}, {5, 256, 220}, {5, 1 << 20, 738780}, {5, 1 << 40, 265192949212}, {5, 1<<62 + 1, 3944978716420687322}, {5, math.MaxInt, 3944978716420687325},
		{0x9e3779b97f4a7c15, 1, 0}, {0x9e3779b97f4a7c15, 2, 1}, {0x9e3779b97f4a7c15, 3, 1}, {0x9e3779b97f4a7c15, 4, 3}, {0x9e3779b97f4a7c15, 7, 2}, {0x9e3779b97f4a7c15, 16, 15}, {0x9e3779b97f4a7c15, 100, 35}, {0x9e3779b97f4a7c15, 256, 175}, {0x9e3779b97f4a7c15, 1 << 20, 904623}, {0x9e3779b97f4a7c15, 1 << 40, 246878686639}, {0x9e3779b97f4a7c15, 1<<62 + 1, 2459150361376443820}, {0x9e3779b97f4a7c15, math.MaxInt, 7070836379803831728},
		{1<<64 - 1, 1, 0}, {1<<64 - 1, 2, 1}, {1<<64 - 1, 3, 0}, {1<<64 - 1, 4, 3}, {1<<64 - 1, 7, 0}, {1<<64 - 1, 16, 11}, {1<<64 - 1, 100, 67}, {1<<64 - 1, 256, 123}, {1<<64 - 1, 1 << 20, 769403}, {1<<64 - 1, 1 << 40, 1086405197179}, {1<<64 - 1, 1<<62 + 1, 3805636230021627257}, {1<<64 - 1, math.MaxInt, 3805636230021627260},
	} {
		if got := mix.Slot(x.word, x.m); got != x.slot {
			t.Errorf("Slot(%#x, %d) = %d, not %d", x.word, x.m, got, x.slot)
		}
	}
}

func TestSlotAmongNone(t *testing.T) {
	for _, w := range edges() {
		for _, m := range []int{0, -1, -2, -7, -16, -256, math.MinInt + 1, math.MinInt} {
			if got := mix.Slot(w, m); got != 0 {
				t.Errorf("Slot(%#x, %d) = %d", w, m, got)
			}
		}
	}
}

func TestSlotIsWhatIsLeft(t *testing.T) {
	var sizes []int
	for n := range 63 {
		sizes = append(sizes, 1<<n, 1<<n+1, 1<<n+(1<<n-1))
	}
	for _, w := range append(edges(), scattered(100)...) {
		for _, m := range sizes {
			left := new(big.Int).Mod(new(big.Int).SetUint64(asWritten(w)), big.NewInt(int64(m)))
			if got := mix.Slot(w, m); int64(got) != left.Int64() {
				t.Errorf("Slot(%#x, %d) = %d, not %d", w, m, got, left)
			}
		}
	}
}

func TestBefore(t *testing.T) {
	for _, a := range mixed {
		for _, b := range mixed {
			if got := mix.Before(a.word, b.word); got != (a.mixed > b.mixed) {
				t.Errorf("Before(%#x, %#x) = %t", a.word, b.word, got)
			}
		}
	}
}

func TestBeforeIsByMixedOnesAsUnsigned(t *testing.T) {
	falling := []uint64{1<<64 - 1, 1<<64 - 2, 1<<63 + 1, 1 << 63, 1<<63 - 1, 1 << 32, 1<<32 - 1, 2, 1, 0}
	for i, a := range falling {
		for k, b := range falling {
			if got := mix.Before(mix.Unmix(a), mix.Unmix(b)); got != (i < k) {
				t.Errorf("Before of those mixed %#x and %#x = %t", a, b, got)
			}
		}
	}
}

func TestNothingIsBeforeItself(t *testing.T) {
	for _, w := range append(edges(), scattered(2000)...) {
		if mix.Before(w, w) {
			t.Errorf("%#x is before itself", w)
		}
	}
}

// B3

func TestEachUndoesTheOther(t *testing.T) {
	for _, w := range append(edges(), scattered(20000)...) {
		if got := mix.Unmix(mix.Mix(w)); got != w {
			t.Errorf("Unmix(Mix(%#x)) = %#x", w, got)
		}
		if got := mix.Mix(mix.Unmix(w)); got != w {
			t.Errorf("Mix(Unmix(%#x)) = %#x", w, got)
		}
	}
}

func TestUnlikeWordsAreMixedUnlike(t *testing.T) {
	ws := append(edges(), scattered(20000)...)
	for w := range uint64(20000) {
		ws = append(ws, w, ^w, w<<32)
	}
	slices.Sort(ws)
	ws = slices.Compact(ws)
	mixedOnes, unmixedOnes := map[uint64]bool{}, map[uint64]bool{}
	for _, w := range ws {
		mixedOnes[mix.Mix(w)] = true
		unmixedOnes[mix.Unmix(w)] = true
	}
	if len(mixedOnes) != len(ws) || len(unmixedOnes) != len(ws) {
		t.Errorf("%d words have %d mixed ones, and are those of %d", len(ws), len(mixedOnes), len(unmixedOnes))
	}
}

func TestJustOneIsBeforeTheOther(t *testing.T) {
	ws := append(edges(), scattered(300)...)
	for _, a := range ws {
		for _, b := range ws {
			if a != b && mix.Before(a, b) == mix.Before(b, a) {
				t.Errorf("%#x and %#x: each before the other: %t", a, b, mix.Before(a, b))
			}
		}
	}
}

func TestBeforeIsAnOrder(t *testing.T) {
	ws := append(edges(), scattered(60)...)
	for _, a := range ws {
		for _, b := range ws {
			for _, c := range ws {
				if mix.Before(a, b) && mix.Before(b, c) && !mix.Before(a, c) {
					t.Errorf("%#x is before %#x, that before %#x, but not the first before the last", a, b, c)
				}
			}
		}
	}
}

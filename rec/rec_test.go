package rec_test

import (
	"math"
	"testing"

	"whitewash/api"
	"whitewash/rec"
)

type (
	call   = [3]uint64
	answer = [2]uint64
)

const last uint64 = 1<<64 - 1

// someWords are words that keys and values may be.
var someWords = []uint64{0, 1, 2, 7, 255, 256, 257, 1 << 32, api.MaxKey, api.Inf, api.NaN, 1<<63 - 1, 1 << 63, last}

// farNumbers are far beyond what any field may be, some of them so that their low bits alone might be.
var farNumbers = []int{math.MinInt, math.MinInt + 1, math.MinInt + 5, -1 << 32, -1<<32 + 5, -256, -255, -2, 1 << 16, 1<<16 + 5, 1 << 32, 1<<32 + 1, 1 << 62, math.MaxInt - 1, math.MaxInt}

// farWords are no first words, and no head's, some of them so that their low bits alone might be.
var farWords = []uint64{258, 511, 512, 513, 1 << 16, 1<<16 + 5, 1 << 32, 1<<32 + 1, 1<<32 + 5, 1 << 62, 1<<63 - 1, 1 << 63, 1<<63 + 1, 1<<63 + 5, last - 255, last - 254, last - 1, last}

// F1

func TestAsk(t *testing.T) {
	for code := 1; code <= 255; code++ {
		for i, key := range someWords {
			val := someWords[len(someWords)-1-i]
			got, no := rec.Ask(api.Op{Code: code, Key: key, Val: val})
			if want := (call{uint64(code), key, val}); got != want || no != api.OK {
				t.Fatalf("Ask of code %d: %v, error %d, not %v", code, got, no, want)
			}
		}
	}
}

func TestAskEachInItsPlace(t *testing.T) {
	for _, x := range []struct {
		op   api.Op
		want call
	}{
		{api.Op{Code: 1}, call{1, 0, 0}},
		{api.Op{Code: 255}, call{255, 0, 0}},
		{api.Op{Code: api.OpPut, Key: 5, Val: 6}, call{11, 5, 6}},
		{api.Op{Code: 6, Key: 5, Val: 11}, call{6, 5, 11}},
		{api.Op{Code: 17, Key: 300}, call{17, 300, 0}},
		{api.Op{Code: 17, Val: 300}, call{17, 0, 300}},
		{api.Op{Code: 2, Key: last, Val: 1 << 63}, call{2, last, 1 << 63}},
	} {
		if got, no := rec.Ask(x.op); got != x.want || no != api.OK {
			t.Errorf("Ask(%+v): %v, error %d, not %v", x.op, got, no, x.want)
		}
	}
}

func TestAskOfNoCall(t *testing.T) {
	for _, code := range append([]int{-1, 0, 256, 257}, farNumbers...) {
		for _, op := range []api.Op{{Code: code}, {Code: code, Key: 1, Val: 2}, {Code: code, Key: last, Val: last}} {
			if got, no := rec.Ask(op); got != (call{}) || no != api.ErrArg {
				t.Errorf("Ask(%+v): %v, error %d, not ErrArg alone", op, got, no)
			}
		}
	}
}

func TestAsked(t *testing.T) {
	for code := 1; code <= 255; code++ {
		for i, key := range someWords {
			val := someWords[len(someWords)-1-i]
			got, no := rec.Asked(call{uint64(code), key, val})
			if want := (api.Op{Code: code, Key: key, Val: val}); got != want || no != api.OK {
				t.Fatalf("Asked of a first word %d: %+v, error %d, not %+v", code, got, no, want)
			}
		}
	}
}

func TestAskedOfNoCall(t *testing.T) {
	for _, first := range append([]uint64{0, 256, 257}, farWords...) {
		for _, w := range []call{{first}, {first, 1, 2}, {first, 0, 5}, {first, 5, 0}, {first, last, last}} {
			if got, no := rec.Asked(w); got != (api.Op{}) || no != api.ErrForm {
				t.Errorf("Asked(%v): %+v, error %d, not ErrForm alone", w, got, no)
			}
		}
	}
}

// F2

func TestAnswer(t *testing.T) {
	for errno := range 256 {
		for _, val := range someWords {
			got, no := rec.Answer(api.Resp{Errno: api.Errno(errno), Val: val})
			if want := (answer{uint64(errno) + 1, val}); got != want || no != api.OK {
				t.Fatalf("Answer of error %d and %d: %v, error %d, not %v", errno, val, got, no, want)
			}
		}
	}
}

func TestAnswersOfTheDocument(t *testing.T) {
	for _, x := range []struct {
		r    api.Resp
		want answer
	}{
		{api.Resp{Errno: api.ErrFull}, answer{12, 0}},
		{api.Resp{}, answer{1, 0}},
		{api.Resp{Val: 12}, answer{1, 12}},
		{api.Resp{Errno: 255, Val: last}, answer{256, last}},
		{api.Resp{Errno: api.ErrScript, Val: 3}, answer{201, 3}},
	} {
		if got, no := rec.Answer(x.r); got != x.want || no != api.OK {
			t.Errorf("Answer(%+v): %v, error %d, not %v", x.r, got, no, x.want)
		}
		if got, no := rec.Told(x.want); got != x.r || no != api.OK {
			t.Errorf("Told(%v): %+v, error %d, not %+v", x.want, got, no, x.r)
		}
	}
}

func TestAnswerOfNone(t *testing.T) {
	for _, errno := range append([]int{-1, 256, 257}, farNumbers...) {
		for _, r := range []api.Resp{{Errno: api.Errno(errno)}, {Errno: api.Errno(errno), Val: 1}, {Errno: api.Errno(errno), Val: last}} {
			if got, no := rec.Answer(r); got != (answer{}) || no != api.ErrArg {
				t.Errorf("Answer(%+v): %v, error %d, not ErrArg alone", r, got, no)
			}
		}
	}
}

func TestTold(t *testing.T) {
	for first := uint64(1); first <= 256; first++ {
		for _, val := range someWords {
			got, no := rec.Told(answer{first, val})
			if want := (api.Resp{Errno: api.Errno(first) - 1, Val: val}); got != want || no != api.OK {
				t.Fatalf("Told of %d and %d: %+v, error %d, not %+v", first, val, got, no, want)
			}
		}
	}
}

func TestToldOfNoAnswer(t *testing.T) {
	for _, first := range append([]uint64{0, 257}, farWords...) {
		for _, w := range []answer{{first}, {first, 1}, {first, last}} {
			if got, no := rec.Told(w); got != (api.Resp{}) || no != api.ErrForm {
				t.Errorf("Told(%v): %+v, error %d, not ErrForm alone", w, got, no)
			}
		}
	}
}

// F3

// says is what the head says.
type says struct{ phase, p int }

// heads is what each word of the head says, at that word, as F3 lists them.
func heads() []says {
	out := []says{{api.Home, 0}}
	for p := range 16 {
		out = append(out, says{api.Away, p}, says{api.Scrub, p})
	}
	return out
}

func TestHead(t *testing.T) {
	for w, s := range heads() {
		if got, no := rec.Head(s.phase, s.p); got != uint64(w) || no != api.OK {
			t.Errorf("Head(%d, %d): %d, error %d, not %d", s.phase, s.p, got, no, w)
		}
	}
}

func TestHeadsOfTheDocument(t *testing.T) {
	for _, x := range []struct {
		phase, p int
		want     uint64
	}{{api.Scrub, 3, 8}, {api.Home, 0, 0}, {api.Away, 0, 1}, {api.Scrub, 0, 2}, {api.Away, 15, 31}, {api.Scrub, 15, 32}} {
		if got, no := rec.Head(x.phase, x.p); got != x.want || no != api.OK {
			t.Errorf("Head(%d, %d): %d, error %d, not %d", x.phase, x.p, got, no, x.want)
		}
	}
}

func headRefused(t *testing.T, phase, p int) {
	t.Helper()
	if got, no := rec.Head(phase, p); got != 0 || no != api.ErrArg {
		t.Errorf("Head(%d, %d): %d, error %d, not ErrArg alone", phase, p, got, no)
	}
}

func TestHeadOfNoPhase(t *testing.T) {
	for _, phase := range append([]int{-1, 3, 4, 16}, farNumbers...) {
		for p := -1; p <= 16; p++ {
			headRefused(t, phase, p)
		}
		headRefused(t, phase, phase)
		headRefused(t, phase, math.MaxInt)
		headRefused(t, phase, math.MinInt)
	}
}

func TestHeadOfNoProcess(t *testing.T) {
	for phase := api.Home; phase <= api.Scrub; phase++ {
		for _, p := range append([]int{-1, 16, 17, 32}, farNumbers...) {
			headRefused(t, phase, p)
		}
	}
}

func TestHeadAtHomeOfAProcess(t *testing.T) {
	for p := 1; p <= 16; p++ {
		headRefused(t, api.Home, p)
	}
}

func TestPhase(t *testing.T) {
	if n := len(heads()); n != 33 {
		t.Fatalf("%d words, not those from 0 to 32", n)
	}
	for w, s := range heads() {
		if phase, p, no := rec.Phase(uint64(w)); phase != s.phase || p != s.p || no != api.OK {
			t.Errorf("Phase(%d): %d and %d, error %d, not %d and %d", w, phase, p, no, s.phase, s.p)
		}
	}
}

func TestPhaseOfNoWord(t *testing.T) {
	for _, w := range append([]uint64{33, 34, 35, 63, 64, 65, 255, 256, 257}, farWords...) {
		if phase, p, no := rec.Phase(w); phase != 0 || p != 0 || no != api.ErrForm {
			t.Errorf("Phase(%d): %d and %d, error %d, not ErrForm alone", w, phase, p, no)
		}
	}
}

// F4

func TestAskedUndoesAsk(t *testing.T) {
	for code := 1; code <= 255; code++ {
		for _, key := range someWords {
			for _, val := range someWords {
				op := api.Op{Code: code, Key: key, Val: val}
				w, no := rec.Ask(op)
				if w[0] == 0 || no != api.OK {
					t.Fatalf("Ask(%+v): %v, error %d", op, w, no)
				}
				if back, no := rec.Asked(w); back != op || no != api.OK {
					t.Fatalf("Asked(%v): %+v, error %d, not %+v", w, back, no, op)
				}
			}
		}
	}
}

func TestToldUndoesAnswer(t *testing.T) {
	for errno := range 256 {
		for _, val := range someWords {
			r := api.Resp{Errno: api.Errno(errno), Val: val}
			w, no := rec.Answer(r)
			if w[0] == 0 || no != api.OK {
				t.Fatalf("Answer(%+v): %v, error %d", r, w, no)
			}
			if back, no := rec.Told(w); back != r || no != api.OK {
				t.Fatalf("Told(%v): %+v, error %d, not %+v", w, back, no, r)
			}
		}
	}
}

func TestPhaseUndoesHead(t *testing.T) {
	seen := map[uint64]says{}
	for _, s := range heads() {
		w, no := rec.Head(s.phase, s.p)
		if was, twice := seen[w]; twice || no != api.OK {
			t.Fatalf("%v and %v have one word, %d (error %d)", was, s, w, no)
		}
		seen[w] = s
		if (w == 0) != (s.phase == api.Home) {
			t.Errorf("the word of %v is %d", s, w)
		}
		if phase, p, no := rec.Phase(w); phase != s.phase || p != s.p || no != api.OK {
			t.Errorf("Phase(%d): %d and %d, error %d, not %v", w, phase, p, no, s)
		}
	}
}

// The other way round: no two words say the same.
func TestWordsComeBack(t *testing.T) {
	for first := range uint64(600) {
		if op, no := rec.Asked(call{first, 3, 4}); no == api.OK {
			if w, no := rec.Ask(op); w != (call{first, 3, 4}) || no != api.OK {
				t.Errorf("Ask(%+v): %v, error %d", op, w, no)
			}
		}
		if r, no := rec.Told(answer{first, 3}); no == api.OK {
			if w, no := rec.Answer(r); w != (answer{first, 3}) || no != api.OK {
				t.Errorf("Answer(%+v): %v, error %d", r, w, no)
			}
		}
		if phase, p, no := rec.Phase(first); no == api.OK {
			if w, no := rec.Head(phase, p); w != first || no != api.OK {
				t.Errorf("Head(%d, %d): %d, error %d, not %d", phase, p, w, no, first)
			}
		}
	}
}

// R4

func TestTheSameForTheSame(t *testing.T) {
	op, r := api.Op{Code: 3, Key: 4, Val: 5}, api.Resp{Errno: 6, Val: 7}
	for range 3 {
		rec.Ask(api.Op{Code: 256, Key: 8})
		rec.Answer(api.Resp{Errno: -1, Val: 9})
		rec.Phase(33)
		if w, no := rec.Ask(op); w != (call{3, 4, 5}) || no != api.OK {
			t.Errorf("Ask(%+v): %v, error %d", op, w, no)
		}
		if w, no := rec.Answer(r); w != (answer{7, 7}) || no != api.OK {
			t.Errorf("Answer(%+v): %v, error %d", r, w, no)
		}
		if w, no := rec.Head(api.Away, 2); w != 5 || no != api.OK {
			t.Errorf("Head of Away and 2: %d, error %d", w, no)
		}
	}
}

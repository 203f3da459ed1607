package cells_test

import (
	"math"
	"slices"
	"testing"

	"whitewash/api"
	"whitewash/cells"
)

// fresh is memory of n cells, or the test's end.
func fresh(t *testing.T, n int) *api.Memory {
	t.Helper()
	m, no := cells.New(n)
	if no != api.OK || len(m.Cells) != n {
		t.Fatalf("New(%d): %d cells, error %d", n, len(m.Cells), no)
	}
	return &m
}

// answer is what one of the six tells, in one form for all of them.
type answer struct {
	w  uint64
	is bool
	no api.Errno
}

// act is one of the six, and what it is called with.
type act struct {
	name  string
	p, at int
	w     uint64
}

// names are the six; byProcess are those that name a process.
var (
	names     = []string{"Load", "Store", "LL", "VL", "SC", "RL"}
	byProcess = names[2:]
)

func do(m *api.Memory, a act) (out answer) {
	switch a.name {
	case "Load":
		out.w, out.no = cells.Load(m, a.at)
	case "Store":
		out.no = cells.Store(m, a.at, a.w)
	case "LL":
		out.w, out.no = cells.LL(m, a.p, a.at)
	case "VL":
		out.is, out.no = cells.VL(m, a.p, a.at)
	case "SC":
		out.is, out.no = cells.SC(m, a.p, a.at, a.w)
	case "RL":
		out.no = cells.RL(m, a.p, a.at)
	default:
		panic(a.name)
	}
	return out
}

// expect does an act and holds what it tells, and all cells behind it, against what they should be.
func expect(t *testing.T, m *api.Memory, a act, want answer, after ...api.Cell) {
	t.Helper()
	if got := do(m, a); got != want {
		t.Errorf("%+v tells %+v, not %+v", a, got, want)
	}
	if !slices.Equal(m.Cells, after) {
		t.Errorf("%+v leaves %v, not %v", a, m.Cells, after)
	}
}

// chance tells numbers below a bound, the same ones each time.
func chance(seed uint64) func(bound int) int {
	return func(bound int) int {
		seed ^= seed << 13
		seed ^= seed >> 7
		seed ^= seed << 17
		return int((seed >> 1) % uint64(bound))
	}
}

var words = []uint64{0, 1, 7, 1 << 31, 1 << 32, 1<<63 - 1, 1 << 63, api.NaN, 1<<64 - 1}

// C1

func TestNew(t *testing.T) {
	for _, n := range []int{0, 1, 2, 3, 16, 17, 1000, 1<<20 - 1, 1 << 20} {
		m := fresh(t, n)
		for at, c := range m.Cells {
			if c != (api.Cell{}) {
				t.Fatalf("New(%d): cell %d is %v", n, at, c)
			}
		}
	}
}

func TestNewRefused(t *testing.T) {
	for _, n := range []int{-1, -2, -1 << 20, math.MinInt, 1<<20 + 1, 1 << 21, 1 << 40, math.MaxInt} {
		m, no := cells.New(n)
		if no != api.ErrArg || len(m.Cells) != 0 {
			t.Errorf("New(%d): %d cells, error %d", n, len(m.Cells), no)
		}
	}
}

func TestNewIsNewMemory(t *testing.T) {
	a, b := fresh(t, 3), fresh(t, 3)
	cells.Store(a, 0, 5)
	a.Cells = append(a.Cells, api.Cell{W: 6})
	b.Cells = append(b.Cells, api.Cell{W: 7})
	if !slices.Equal(a.Cells, []api.Cell{{W: 5}, {}, {}, {W: 6}}) || !slices.Equal(b.Cells, []api.Cell{{}, {}, {}, {W: 7}}) {
		t.Errorf("%v and %v", a.Cells, b.Cells)
	}
}

// wrongPlaces are none of memory of three cells; wrongProcesses are no processes.
var (
	wrongPlaces    = []int{-1, -2, math.MinInt, 3, 4, 1 << 20, 1 << 32, math.MaxInt}
	wrongProcesses = []int{-1, -64, math.MinInt, 16, 17, 63, 64, 1 << 32, math.MaxInt}
)

func refused(t *testing.T, m *api.Memory, a act) {
	t.Helper()
	if got := do(m, a); got != (answer{no: api.ErrArg}) {
		t.Errorf("%+v tells %+v, not ErrArg alone", a, got)
	}
}

func TestNoMemory(t *testing.T) {
	for _, name := range names {
		for _, at := range []int{0, 1, -1, math.MaxInt} {
			for _, p := range []int{0, 15, -1, 16} {
				refused(t, nil, act{name, p, at, 9})
			}
		}
	}
}

func TestNoPlace(t *testing.T) {
	room := []api.Cell{{W: 1, Links: 1<<16 - 1}, {W: 2}, {W: 3, Links: 1<<16 - 1}, {W: 4, Links: 1<<16 - 1}, {W: 5}}
	was := slices.Clone(room)
	m := &api.Memory{Cells: room[:3]}
	for _, name := range names {
		for _, at := range wrongPlaces {
			for _, p := range []int{0, 8, 15, -1, 16} {
				refused(t, m, act{name, p, at, 9})
			}
		}
	}
	if len(m.Cells) != 3 || !slices.Equal(room, was) {
		t.Errorf("memory has become %v, with what stands behind it %v", m.Cells, room)
	}
}

func TestNoCells(t *testing.T) {
	for _, m := range []*api.Memory{{}, fresh(t, 0)} {
		for _, name := range names {
			refused(t, m, act{name, 0, 0, 9})
		}
	}
}

func TestNoProcess(t *testing.T) {
	was := []api.Cell{{W: 1, Links: 1<<16 - 1}, {W: 2}, {W: 3, Links: -1}}
	m := &api.Memory{Cells: slices.Clone(was)}
	for _, name := range byProcess {
		for _, p := range wrongProcesses {
			for at := range was {
				refused(t, m, act{name, p, at, 9})
			}
		}
	}
	if !slices.Equal(m.Cells, was) {
		t.Errorf("memory has become %v", m.Cells)
	}
}

func TestEachPlaceAndProcessMayBe(t *testing.T) {
	m := fresh(t, 3)
	for at := range 3 {
		for p := range 16 {
			for _, name := range names {
				if got := do(m, act{name, p, at, 9}); got.no != api.OK {
					t.Errorf("%s by %d at %d: error %d", name, p, at, got.no)
				}
			}
		}
	}
}

func TestTheMemoryItselfIsWorkedOn(t *testing.T) {
	m := fresh(t, 2)
	same := m.Cells
	do(m, act{"Store", 0, 0, 5})
	do(m, act{"LL", 4, 1, 0})
	if want := []api.Cell{{W: 5}, {Links: 1 << 4}}; !slices.Equal(same, want) {
		t.Errorf("the cells are %v, not %v", same, want)
	}
	do(m, act{"SC", 4, 1, 6})
	do(m, act{"LL", 3, 0, 0})
	do(m, act{"LL", 4, 0, 0})
	do(m, act{"RL", 3, 0, 0})
	if want := []api.Cell{{W: 5, Links: 1 << 4}, {W: 6}}; !slices.Equal(same, want) {
		t.Errorf("the cells are %v, not %v", same, want)
	}
}

// C2

func TestLoadTellsWhatWasStored(t *testing.T) {
	m := fresh(t, 2)
	expect(t, m, act{name: "Load", at: 1}, answer{}, api.Cell{}, api.Cell{})
	for _, w := range words {
		expect(t, m, act{name: "Store", at: 1, w: w}, answer{}, api.Cell{}, api.Cell{W: w})
		expect(t, m, act{name: "Load", at: 1}, answer{w: w}, api.Cell{}, api.Cell{W: w})
		expect(t, m, act{name: "Load", at: 0}, answer{}, api.Cell{}, api.Cell{W: w})
	}
}

func TestLoadLeavesLinks(t *testing.T) {
	for _, links := range []int{0, 1, 1 << 15, 1<<16 - 1} {
		m := &api.Memory{Cells: []api.Cell{{W: 7, Links: links}}}
		expect(t, m, act{name: "Load"}, answer{w: 7}, api.Cell{W: 7, Links: links})
	}
}

func TestStoreEndsLinks(t *testing.T) {
	for _, links := range []int{1, 1 << 15, 1<<15 | 1, 1<<16 - 1, 1 << 16, -1, math.MinInt} {
		for _, w := range []uint64{7, 8} {
			m := &api.Memory{Cells: []api.Cell{{W: 7, Links: links}, {W: 7, Links: links}}}
			expect(t, m, act{name: "Store", at: 1, w: w}, answer{}, api.Cell{W: 7, Links: links}, api.Cell{W: w})
		}
	}
}

func TestStoreEndsEachProcessLink(t *testing.T) {
	m := fresh(t, 1)
	for p := range 16 {
		do(m, act{"LL", p, 0, 0})
	}
	expect(t, m, act{name: "Store"}, answer{}, api.Cell{})
	for p := range 16 {
		expect(t, m, act{"VL", p, 0, 0}, answer{}, api.Cell{})
		expect(t, m, act{"SC", p, 0, 5}, answer{}, api.Cell{})
	}
}

// C3

func TestOneProcess(t *testing.T) {
	for _, p := range []int{0, 1, 7, 14, 15} {
		bit := 1 << p
		m := &api.Memory{Cells: []api.Cell{{W: 4}}}
		expect(t, m, act{"VL", p, 0, 0}, answer{}, api.Cell{W: 4})
		expect(t, m, act{"SC", p, 0, 9}, answer{}, api.Cell{W: 4})
		expect(t, m, act{"RL", p, 0, 0}, answer{}, api.Cell{W: 4})
		expect(t, m, act{"LL", p, 0, 0}, answer{w: 4}, api.Cell{W: 4, Links: bit})
		expect(t, m, act{"LL", p, 0, 0}, answer{w: 4}, api.Cell{W: 4, Links: bit})
		expect(t, m, act{"VL", p, 0, 0}, answer{is: true}, api.Cell{W: 4, Links: bit})
		expect(t, m, act{"VL", p, 0, 0}, answer{is: true}, api.Cell{W: 4, Links: bit})
		expect(t, m, act{"SC", p, 0, 9}, answer{is: true}, api.Cell{W: 9})
		expect(t, m, act{"VL", p, 0, 0}, answer{}, api.Cell{W: 9})
		expect(t, m, act{"SC", p, 0, 8}, answer{}, api.Cell{W: 9})
		expect(t, m, act{"LL", p, 0, 0}, answer{w: 9}, api.Cell{W: 9, Links: bit})
		expect(t, m, act{"RL", p, 0, 0}, answer{}, api.Cell{W: 9})
		expect(t, m, act{"RL", p, 0, 0}, answer{}, api.Cell{W: 9})
		expect(t, m, act{"SC", p, 0, 8}, answer{}, api.Cell{W: 9})
		expect(t, m, act{"LL", p, 0, 0}, answer{w: 9}, api.Cell{W: 9, Links: bit})
		expect(t, m, act{"SC", p, 0, 9}, answer{is: true}, api.Cell{W: 9})
		expect(t, m, act{"SC", p, 0, 9}, answer{}, api.Cell{W: 9})
	}
}

func TestSeveralProcesses(t *testing.T) {
	const low, mid, high = 1, 1 << 7, 1 << 15
	m := &api.Memory{Cells: []api.Cell{{W: 4}}}
	expect(t, m, act{"LL", 0, 0, 0}, answer{w: 4}, api.Cell{W: 4, Links: low})
	expect(t, m, act{"LL", 15, 0, 0}, answer{w: 4}, api.Cell{W: 4, Links: low | high})
	expect(t, m, act{"LL", 7, 0, 0}, answer{w: 4}, api.Cell{W: 4, Links: low | mid | high})
	expect(t, m, act{"VL", 15, 0, 0}, answer{is: true}, api.Cell{W: 4, Links: low | mid | high})
	expect(t, m, act{"VL", 6, 0, 0}, answer{}, api.Cell{W: 4, Links: low | mid | high})
	expect(t, m, act{"RL", 6, 0, 0}, answer{}, api.Cell{W: 4, Links: low | mid | high})
	expect(t, m, act{"SC", 14, 0, 9}, answer{}, api.Cell{W: 4, Links: low | mid | high})
	expect(t, m, act{"RL", 0, 0, 0}, answer{}, api.Cell{W: 4, Links: mid | high})
	expect(t, m, act{"VL", 0, 0, 0}, answer{}, api.Cell{W: 4, Links: mid | high})
	expect(t, m, act{"SC", 0, 0, 9}, answer{}, api.Cell{W: 4, Links: mid | high})
	expect(t, m, act{"SC", 15, 0, 9}, answer{is: true}, api.Cell{W: 9})
	expect(t, m, act{"VL", 7, 0, 0}, answer{}, api.Cell{W: 9})
	expect(t, m, act{"SC", 7, 0, 4}, answer{}, api.Cell{W: 9})
}

func TestExample(t *testing.T) {
	m := fresh(t, 1)
	do(m, act{"LL", 3, 0, 0})
	do(m, act{"LL", 5, 0, 0})
	expect(t, m, act{"SC", 5, 0, 1}, answer{is: true}, api.Cell{W: 1})
	expect(t, m, act{"SC", 3, 0, 2}, answer{}, api.Cell{W: 1})
}

// A process' bit is all that is asked of Links: bits that are nobody's stay till the cell is written.
func TestBitsOfNobody(t *testing.T) {
	for p := range 16 {
		for _, others := range []int{1 << 16, 1 << 62, math.MinInt, -1 &^ (1 << p)} {
			m := &api.Memory{Cells: []api.Cell{{W: 4, Links: others}}}
			expect(t, m, act{"VL", p, 0, 0}, answer{}, api.Cell{W: 4, Links: others})
			expect(t, m, act{"SC", p, 0, 9}, answer{}, api.Cell{W: 4, Links: others})
			expect(t, m, act{"LL", p, 0, 0}, answer{w: 4}, api.Cell{W: 4, Links: others | 1<<p})
			expect(t, m, act{"VL", p, 0, 0}, answer{is: true}, api.Cell{W: 4, Links: others | 1<<p})
			expect(t, m, act{"RL", p, 0, 0}, answer{}, api.Cell{W: 4, Links: others})
			do(m, act{"LL", p, 0, 0})
			expect(t, m, act{"SC", p, 0, 9}, answer{is: true}, api.Cell{W: 9})
		}
	}
}

func TestEachWord(t *testing.T) {
	m := fresh(t, 1)
	was := uint64(0)
	for _, w := range words {
		expect(t, m, act{"LL", 2, 0, 0}, answer{w: was}, api.Cell{W: was, Links: 1 << 2})
		expect(t, m, act{"SC", 2, 0, w}, answer{is: true}, api.Cell{W: w})
		was = w
	}
}

// C4

// past is an act that was done, and whether it was an SC that succeeded.
type past struct {
	act
	done bool
}

// maySucceed is C4's own sentence, asked of all that has happened, the last first: p has linked the cell, and neither let go of it, nor anybody written it since.
func maySucceed(before []past, p, at int) bool {
	for _, b := range slices.Backward(before) {
		if b.at != at {
			continue
		}
		switch {
		case b.name == "Store", b.done, b.name == "RL" && b.p == p:
			return false
		case b.name == "LL" && b.p == p:
			return true
		}
	}
	return false
}

// wordThen is what was written to a cell last.
func wordThen(before []past, at int) uint64 {
	for _, b := range slices.Backward(before) {
		if b.at == at && (b.name == "Store" || b.done) {
			return b.w
		}
	}
	return 0
}

func TestSucceedsByWhatHasHappened(t *testing.T) {
	// Links and SC come oftener than a Store, or hardly any SC would succeed.
	often := []string{"LL", "LL", "LL", "SC", "SC", "VL", "RL", "Load", "Store"}
	for _, size := range []struct{ procs, cells int }{{1, 1}, {2, 1}, {2, 2}, {5, 3}, {16, 2}, {16, 5}} {
		next := chance(uint64(size.procs*100 + size.cells))
		m := fresh(t, size.cells)
		var before []past
		won, lost := 0, 0
		for i := range 3000 {
			a := act{often[next(len(often))], 15 - next(size.procs), next(size.cells), uint64(next(4))}
			linked := maySucceed(before, a.p, a.at)
			want := answer{is: linked && (a.name == "SC" || a.name == "VL")}
			if a.name == "LL" || a.name == "Load" {
				want.w = wordThen(before, a.at)
			}
			was := slices.Clone(m.Cells)
			if got := do(m, a); got != want {
				t.Fatalf("act %d, %+v, tells %+v, not %+v", i, a, got, want)
			}
			for at := range was {
				if at != a.at && m.Cells[at] != was[at] {
					t.Fatalf("act %d, %+v, makes cell %d %v", i, a, at, m.Cells[at])
				}
			}
			before = append(before, past{a, a.name == "SC" && want.is})
			if a.name == "SC" && want.is {
				won++
			} else if a.name == "SC" {
				lost++
			}
		}
		if won < 30 || lost < 30 {
			t.Errorf("%+v: %d succeeded, %d did not: too few to tell", size, won, lost)
		}
	}
}

func TestOneAtMostSucceeds(t *testing.T) {
	for first := range 16 {
		m := fresh(t, 1)
		for p := range 16 {
			expect(t, m, act{"LL", p, 0, 0}, answer{}, api.Cell{Links: 2<<p - 1})
		}
		won := []int{}
		for i := range 16 {
			p := (first + i) % 16
			if do(m, act{"SC", p, 0, uint64(100 + p)}).is {
				won = append(won, p)
			}
		}
		if !slices.Equal(won, []int{first}) || m.Cells[0] != (api.Cell{W: uint64(100 + first)}) {
			t.Errorf("%d first: %v succeeded, and left %v", first, won, m.Cells[0])
		}
	}
}

func TestNoOtherCellChanges(t *testing.T) {
	for _, name := range names {
		for at := range 5 {
			for _, p := range []int{0, 3, 15} {
				m := fresh(t, 5)
				for i := range m.Cells {
					m.Cells[i] = api.Cell{W: uint64(10 + i), Links: 1<<p | 1<<i}
				}
				was := slices.Clone(m.Cells)
				do(m, act{name, p, at, 99})
				for i := range m.Cells {
					if i != at && m.Cells[i] != was[i] {
						t.Errorf("%s by %d at %d: cell %d is %v, was %v", name, p, at, i, m.Cells[i], was[i])
					}
				}
			}
		}
	}
}

func TestALinkIsOfOneCell(t *testing.T) {
	m := fresh(t, 3)
	expect(t, m, act{"LL", 6, 0, 0}, answer{}, api.Cell{Links: 1 << 6}, api.Cell{}, api.Cell{})
	expect(t, m, act{"SC", 6, 1, 9}, answer{}, api.Cell{Links: 1 << 6}, api.Cell{}, api.Cell{})
	expect(t, m, act{"LL", 6, 2, 0}, answer{}, api.Cell{Links: 1 << 6}, api.Cell{}, api.Cell{Links: 1 << 6})
	expect(t, m, act{"SC", 6, 2, 9}, answer{is: true}, api.Cell{Links: 1 << 6}, api.Cell{}, api.Cell{W: 9})
	expect(t, m, act{"RL", 6, 1, 0}, answer{}, api.Cell{Links: 1 << 6}, api.Cell{}, api.Cell{W: 9})
	expect(t, m, act{"Store", 6, 1, 8}, answer{}, api.Cell{Links: 1 << 6}, api.Cell{W: 8}, api.Cell{W: 9})
	expect(t, m, act{"SC", 6, 0, 7}, answer{is: true}, api.Cell{W: 7}, api.Cell{W: 8}, api.Cell{W: 9})
}

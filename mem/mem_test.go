package mem

import (
	"math"
	"math/rand"
	"slices"
	"testing"

	"burin/api"
)

// The signatures that the chapter lists.
var (
	_ func() *Mem                         = New
	_ func(*Mem, int) (int, api.Errno)    = (*Mem).Alloc
	_ func(*Mem, int) api.Errno           = (*Mem).Keep
	_ func(*Mem, Addr) (int64, api.Errno) = (*Mem).Load
	_ func(*Mem, Addr, int64) api.Errno   = (*Mem).Store
	_ func(*Mem) int                      = (*Mem).Blocks
	_ func(*Mem) int                      = (*Mem).Total
	_ struct{ Block, Off int }            = struct{ Block, Off int }(Addr{})
)

func alloc(t *testing.T, m *Mem, cells, number int, want api.Errno) {
	t.Helper()
	if b, e := m.Alloc(cells); b != number || e != want {
		t.Errorf("Alloc(%d) = %d, %d; want %d, %d", cells, b, e, number, want)
	}
}

func keep(t *testing.T, m *Mem, blocks int, want api.Errno) {
	t.Helper()
	if e := m.Keep(blocks); e != want {
		t.Errorf("Keep(%d) = %d; want %d", blocks, e, want)
	}
}

func load(t *testing.T, m *Mem, block, off int, v int64, want api.Errno) {
	t.Helper()
	if got, e := m.Load(Addr{block, off}); got != v || e != want {
		t.Errorf("Load(%d, %d) = %d, %d; want %d, %d", block, off, got, e, v, want)
	}
}

func store(t *testing.T, m *Mem, block, off int, v int64, want api.Errno) {
	t.Helper()
	if e := m.Store(Addr{block, off}, v); e != want {
		t.Errorf("Store(%d, %d) = %d; want %d", block, off, e, want)
	}
}

func counts(t *testing.T, m *Mem, blocks, total int) {
	t.Helper()
	if m.Blocks() != blocks || m.Total() != total {
		t.Errorf("%d blocks, %d cells; want %d, %d", m.Blocks(), m.Total(), blocks, total)
	}
}

// The chapter's example.
func TestExample(t *testing.T) {
	m := New()
	counts(t, m, 0, 0)
	alloc(t, m, 2, 0, api.OK)
	alloc(t, m, 0, 1, api.OK)
	store(t, m, 0, 1, 5, api.OK)
	load(t, m, 0, 1, 5, api.OK)
	load(t, m, 0, 2, 0, api.ErrNone)
	load(t, m, 1, 0, 0, api.ErrNone)
	counts(t, m, 2, 2)
	keep(t, m, 0, api.OK)
	counts(t, m, 0, 0)
	alloc(t, m, 3, 0, api.OK)
	load(t, m, 0, 1, 0, api.OK)
	counts(t, m, 1, 3)
}

// P8.1: blocks of the least and the greatest length, and wrong ones; beside an error nothing is done.
func TestAllocLimits(t *testing.T) {
	m := New()
	for _, cells := range []int{-1, -2, math.MinInt32, math.MinInt} {
		alloc(t, m, cells, 0, api.ErrArg)
	}
	for _, cells := range []int{api.MaxCells + 1, math.MaxInt32, math.MaxInt} {
		alloc(t, m, cells, 0, api.ErrLimit)
	}
	counts(t, m, 0, 0)
	alloc(t, m, 0, 0, api.OK)
	alloc(t, m, api.MaxCells, 1, api.OK)
	counts(t, m, 2, api.MaxCells)
	for _, cells := range []int{1, 2, api.MaxCells, math.MaxInt - 1, math.MaxInt} {
		alloc(t, m, cells, 0, api.ErrLimit)
	}
	for _, cells := range []int{-1, math.MinInt} {
		alloc(t, m, cells, 0, api.ErrArg)
	}
	alloc(t, m, 0, 2, api.OK)
	counts(t, m, 3, api.MaxCells)
	store(t, m, 1, api.MaxCells-1, 7, api.OK)
	load(t, m, 1, api.MaxCells-1, 7, api.OK)
	load(t, m, 1, 0, 0, api.OK)
	load(t, m, 1, api.MaxCells, 0, api.ErrNone)
	store(t, m, 1, api.MaxCells, 7, api.ErrNone)
}

// P8.1: the limit is of all blocks together, and what is given back counts no more.
func TestAllocTogether(t *testing.T) {
	m := New()
	alloc(t, m, api.MaxCells-3, 0, api.OK)
	alloc(t, m, 4, 0, api.ErrLimit)
	alloc(t, m, 2, 1, api.OK)
	alloc(t, m, 2, 0, api.ErrLimit)
	alloc(t, m, 1, 2, api.OK)
	alloc(t, m, 1, 0, api.ErrLimit)
	counts(t, m, 3, api.MaxCells)
	keep(t, m, 1, api.OK)
	counts(t, m, 1, api.MaxCells-3)
	alloc(t, m, 4, 0, api.ErrLimit)
	alloc(t, m, 3, 1, api.OK)
	keep(t, m, 0, api.OK)
	alloc(t, m, api.MaxCells+1, 0, api.ErrLimit)
	alloc(t, m, api.MaxCells, 0, api.OK)
	for i := range 2000 {
		alloc(t, m, 0, 1+i, api.OK)
	}
	counts(t, m, 2001, api.MaxCells)
}

// P8.1: as many blocks of one cell as may be.
func TestManyBlocks(t *testing.T) {
	m := New()
	for i := range api.MaxCells {
		b, e := m.Alloc(1)
		if b != i || e != api.OK || m.Store(Addr{b, 0}, int64(i)) != api.OK {
			t.Fatalf("block %d: %d, %d", i, b, e)
		}
	}
	alloc(t, m, 1, 0, api.ErrLimit)
	counts(t, m, api.MaxCells, api.MaxCells)
	for i := range api.MaxCells {
		load(t, m, i, 0, int64(i), api.OK)
	}
	keep(t, m, 5, api.OK)
	counts(t, m, 5, 5)
	load(t, m, 4, 0, 4, api.OK)
	load(t, m, 5, 0, 0, api.ErrNone)
}

// P8.1: which numbers of blocks can be kept.
func TestKeep(t *testing.T) {
	m := New()
	keep(t, m, 0, api.OK)
	for _, blocks := range []int{-1, 1, 2, math.MinInt, math.MaxInt} {
		keep(t, m, blocks, api.ErrArg)
	}
	for i, cells := range []int{3, 0, 2, 4} {
		alloc(t, m, cells, i, api.OK)
		if cells > 0 {
			store(t, m, i, cells-1, int64(i+10), api.OK)
		}
	}
	for _, blocks := range []int{-1, 5, 6, math.MinInt, math.MaxInt} {
		keep(t, m, blocks, api.ErrArg)
	}
	keep(t, m, 4, api.OK)
	counts(t, m, 4, 9)
	load(t, m, 3, 3, 13, api.OK)
	keep(t, m, 3, api.OK)
	counts(t, m, 3, 5)
	load(t, m, 3, 3, 0, api.ErrNone)
	load(t, m, 2, 1, 12, api.OK)
	keep(t, m, 4, api.ErrArg)
	keep(t, m, 1, api.OK)
	counts(t, m, 1, 3)
	load(t, m, 2, 1, 0, api.ErrNone)
	load(t, m, 0, 2, 10, api.OK)
	keep(t, m, 0, api.OK)
	counts(t, m, 0, 0)
	load(t, m, 0, 2, 0, api.ErrNone)
}

// P8.2: places just within and just beyond a block.
func TestPlaces(t *testing.T) {
	m := New()
	lengths := []int{1, 0, 2, 16}
	for i, cells := range lengths {
		alloc(t, m, cells, i, api.OK)
	}
	for block := -2; block < 7; block++ {
		for _, off := range []int{math.MinInt, -1, 0, 1, 2, 3, 15, 16, 17, math.MaxInt} {
			want := api.ErrNone
			if block >= 0 && block < len(lengths) && off >= 0 && off < lengths[block] {
				want = api.OK
			}
			load(t, m, block, off, 0, want)
			store(t, m, block, off, 9, want)
			if want == api.OK {
				load(t, m, block, off, 9, api.OK)
				store(t, m, block, off, 0, api.OK)
			}
			load(t, m, block, off, 0, want)
		}
	}
	for _, block := range []int{math.MinInt, math.MaxInt} {
		load(t, m, block, 0, 0, api.ErrNone)
		store(t, m, block, 0, 1, api.ErrNone)
	}
	counts(t, m, 4, 19)
}

// P8.2: a cell holds all numbers, and no other cell is touched.
func TestNumbers(t *testing.T) {
	m := New()
	alloc(t, m, 3, 0, api.OK)
	alloc(t, m, 3, 1, api.OK)
	store(t, m, 0, 1, 77, api.OK)
	for _, v := range []int64{1, -1, 0, 255, math.MinInt64, math.MaxInt64, 0, 0, 5, 5, -5} {
		store(t, m, 1, 1, v, api.OK)
		load(t, m, 1, 1, v, api.OK)
		load(t, m, 1, 0, 0, api.OK)
		load(t, m, 1, 2, 0, api.OK)
		load(t, m, 0, 1, 77, api.OK)
	}
}

// P8.1: a block that was given back is gone; a new one with its number is all 0, be it longer or shorter.
func TestNewBlocksAreEmpty(t *testing.T) {
	for _, cells := range []int{1, 3, 5, 9} {
		m := New()
		alloc(t, m, 2, 0, api.OK)
		alloc(t, m, 5, 1, api.OK)
		store(t, m, 0, 0, 8, api.OK)
		for off := range 5 {
			store(t, m, 1, off, int64(off-2), api.OK)
		}
		keep(t, m, 1, api.OK)
		load(t, m, 1, 4, 0, api.ErrNone)
		store(t, m, 1, 4, 1, api.ErrNone)
		alloc(t, m, cells, 1, api.OK)
		for off := range cells {
			load(t, m, 1, off, 0, api.OK)
		}
		load(t, m, 1, cells, 0, api.ErrNone)
		load(t, m, 0, 0, 8, api.OK)
	}
}

// What is 0, or gone, takes no room.
func TestNoRoomForZeros(t *testing.T) {
	m := New()
	alloc(t, m, 10, 0, api.OK)
	alloc(t, m, 10, 1, api.OK)
	for _, r := range []struct {
		block, off int
		v          int64
		cells      int
	}{{0, 3, 0, 0}, {0, 3, 5, 1}, {0, 3, 6, 1}, {1, 9, -1, 2}, {1, 0, 2, 3}, {0, 3, 0, 2}, {0, 3, 0, 2}, {0, 4, 1, 3}} {
		store(t, m, r.block, r.off, r.v, api.OK)
		if len(m.cells) != r.cells {
			t.Errorf("%d cells stand there behind %v", len(m.cells), r)
		}
	}
	keep(t, m, 1, api.OK)
	if len(m.cells) != 1 {
		t.Errorf("%d cells stand there behind Keep(1)", len(m.cells))
	}
	keep(t, m, 0, api.OK)
	if len(m.cells) != 0 {
		t.Errorf("%d cells stand there behind Keep(0)", len(m.cells))
	}
}

// P1: great blocks that are hardly used are soon gone.
func TestGreatBlocks(t *testing.T) {
	m := New()
	for range 200000 {
		alloc(t, m, api.MaxCells, 0, api.OK)
		store(t, m, 0, 1, 5, api.OK)
		store(t, m, 0, api.MaxCells-1, 5, api.OK)
		store(t, m, 0, 1, 0, api.OK)
		keep(t, m, 0, api.OK)
	}
	counts(t, m, 0, 0)
}

// A nil memory.
func TestNil(t *testing.T) {
	var m *Mem
	for _, v := range []int{math.MinInt, -1, 0, 1, api.MaxCells + 1, math.MaxInt} {
		alloc(t, m, v, 0, api.ErrNone)
		keep(t, m, v, api.ErrNone)
		load(t, m, v, 0, 0, api.ErrNone)
		load(t, m, 0, v, 0, api.ErrNone)
		store(t, m, v, 0, 1, api.ErrNone)
		store(t, m, 0, v, 0, api.ErrNone)
	}
	counts(t, m, 0, 0)
}

// P1: zero values and copies of the struct don't panic.
func TestZeroAndCopies(t *testing.T) {
	m := New()
	alloc(t, m, 4, 0, api.OK)
	alloc(t, m, 5, 1, api.OK)
	store(t, m, 1, 4, 6, api.OK)
	dup := *m
	all := []*Mem{{}, &dup, m, {}}
	r := rand.New(rand.NewSource(8))
	for range 5000 {
		x := all[r.Intn(len(all))]
		switch r.Intn(6) {
		case 0:
			x.Alloc(r.Intn(60) - 5)
		case 1:
			x.Keep(r.Intn(x.Blocks()+3) - 1)
		case 2:
			x.Load(Addr{r.Intn(12) - 1, r.Intn(60) - 1})
		case 3:
			x.Store(Addr{r.Intn(12) - 1, r.Intn(60) - 1}, int64(r.Intn(3)))
		case 4:
			x.Alloc(0)
			x.Store(Addr{}, 3)
		default:
			x.Total()
		}
	}
}

// P1: a copy that has blocks of its own meets cells that it doesn't hold, and others at their places.
func TestCopyOfItsOwn(t *testing.T) {
	m := New()
	alloc(t, m, 9, 0, api.OK)
	dup := *m
	for dup.Blocks() < 9 {
		dup.Alloc(1)
	}
	for _, x := range []*Mem{m, &dup} {
		for _, y := range []*Mem{m, &dup} {
			for off := range 9 {
				x.Store(Addr{0, 8 - off}, 5)
				y.Store(Addr{0, off}, int64(off%3))
				x.Store(Addr{0, off}, 0)
				y.Store(Addr{0, 8 - off}, 0)
			}
		}
	}
	m.Keep(0)
	dup.Keep(0)
}

// tidy asks whether just the cells of p that aren't 0 take room, and are counted.
func tidy(t *testing.T, m *Mem, p plain) {
	t.Helper()
	all := 0
	for number, b := range p {
		var held []int
		for off, v := range b {
			if v != 0 {
				held = append(held, off)
			}
		}
		if got := slices.Sorted(slices.Values(m.blocks[number].held)); !slices.Equal(got, held) {
			t.Errorf("block %d: the cells %v are held; want %v", number, got, held)
		}
		all += len(held)
	}
	if len(m.cells) != all {
		t.Errorf("%d cells stand there; want %d", len(m.cells), all)
	}
}

// plain is memory as a list of lists.
type plain [][]int64

func (p plain) total() int {
	sum := 0
	for _, b := range p {
		sum += len(b)
	}
	return sum
}

func (p *plain) alloc(cells int) (int, api.Errno) {
	if cells < 0 {
		return 0, api.ErrArg
	}
	if p.total()+cells > 65536 {
		return 0, api.ErrLimit
	}
	*p = append(*p, make([]int64, cells))
	return len(*p) - 1, api.OK
}

func (p *plain) keep(blocks int) api.Errno {
	if blocks < 0 || blocks > len(*p) {
		return api.ErrArg
	}
	*p = (*p)[:blocks]
	return api.OK
}

func (p plain) cell(a Addr) *int64 {
	if a.Block < 0 || a.Block >= len(p) || a.Off < 0 || a.Off >= len(p[a.Block]) {
		return nil
	}
	return &p[a.Block][a.Off]
}

// step does one thing to a memory and to a list of lists, and asks whether both answer alike.
func step(t *testing.T, r *rand.Rand, m *Mem, p *plain) {
	t.Helper()
	a := Addr{r.Intn(len(*p)+2) - 1, r.Intn(8) - 1}
	cell := p.cell(a)
	switch r.Intn(8) {
	case 0:
		cells := r.Intn(9) - 1
		if r.Intn(6) == 0 {
			cells = r.Intn(50000)
		}
		number, want := p.alloc(cells)
		alloc(t, m, cells, number, want)
	case 1:
		blocks := len(*p) - r.Intn(4) + 1
		keep(t, m, blocks, p.keep(blocks))
	case 2, 3, 4:
		if cell == nil {
			load(t, m, a.Block, a.Off, 0, api.ErrNone)
		} else {
			load(t, m, a.Block, a.Off, *cell, api.OK)
		}
	default:
		v := int64(r.Intn(4)) - 1
		if cell == nil {
			store(t, m, a.Block, a.Off, v, api.ErrNone)
		} else {
			*cell = v
			store(t, m, a.Block, a.Off, v, api.OK)
		}
	}
	counts(t, m, len(*p), p.total())
}

// P8.1, P8.2, P2: long runs against a list of lists; two memories that are used by turns don't touch each other.
func TestAgainstLists(t *testing.T) {
	r := rand.New(rand.NewSource(9))
	for range 100 {
		m, n := New(), New()
		var p, q plain
		for range 400 {
			step(t, r, m, &p)
			step(t, r, n, &q)
			if t.Failed() {
				return
			}
		}
		tidy(t, m, p)
		tidy(t, n, q)
		for block := range p {
			for off, v := range p[block] {
				if got, e := m.Load(Addr{block, off}); got != v || e != api.OK {
					t.Fatalf("Load(%d, %d) = %d, %d; want %d", block, off, got, e, v)
				}
			}
		}
	}
}

// P2: each New is another memory, and the same calls answer the same.
func TestSameAgain(t *testing.T) {
	m, n, still := New(), New(), New()
	if m == n || m == nil {
		t.Fatal("no new memory")
	}
	for i := -3; i < 40; i++ {
		a, e := m.Alloc(i)
		b, f := n.Alloc(i)
		if a != b || e != f || m.Store(Addr{a, i / 2}, int64(i)) != n.Store(Addr{b, i / 2}, int64(i)) {
			t.Fatalf("other answers at %d", i)
		}
		v, e := m.Load(Addr{a, i / 2})
		w, f := n.Load(Addr{b, i / 2})
		if v != w || e != f || i%7 == 0 && m.Keep(i/2) != n.Keep(i/2) {
			t.Fatalf("other answers at %d", i)
		}
		counts(t, m, n.Blocks(), n.Total())
	}
	counts(t, still, 0, 0)
}

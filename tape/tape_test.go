package tape

import (
	"math"
	"slices"
	"testing"

	"burin/api"
)

// The signatures that the chapter lists.
var (
	_ func([]uint64) (*Tape, api.Errno) = New
	_ func(*Tape, int) int              = (*Tape).Below
	_ func(*Tape, []int) int            = (*Tape).Pick
	_ func(*Tape) int                   = (*Tape).Used
	_ func(*Tape) int                   = (*Tape).Left
	_ func(*Tape) []Draw                = (*Tape).Log
)

const (
	greatest = 1 << 20 // that a weight counts as
	sumLimit = 1 << 30
)

func of(t *testing.T, draws ...uint64) *Tape {
	t.Helper()
	x, e := New(draws)
	if x == nil || e != api.OK {
		t.Fatalf("New = %v, %d", x, e)
	}
	return x
}

func expect(t *testing.T, x *Tape, used, left int, log ...Draw) {
	t.Helper()
	if x.Used() != used || x.Left() != left || !slices.Equal(x.Log(), log) {
		t.Fatalf("Used %d, Left %d, Log %v; want %d, %d, %v", x.Used(), x.Left(), x.Log(), used, left, log)
	}
}

// weights of which n are w, with more behind them.
func weights(n, w int, more ...int) []int {
	return append(slices.Repeat([]int{w}, n), more...)
}

// P2.1
func TestNewLimits(t *testing.T) {
	for _, n := range []int{0, 1, api.MaxTape - 1, api.MaxTape} {
		expect(t, of(t, make([]uint64, n)...), 0, n)
	}
	expect(t, of(t), 0, 0)
	for _, n := range []int{api.MaxTape + 1, 3 * api.MaxTape} {
		if x, e := New(make([]uint64, n)); x != nil || e != api.ErrLong {
			t.Errorf("New of %d: %v, %d", n, x, e)
		}
	}
	if x, e := New([]uint64{}); x == nil || e != api.OK {
		t.Errorf("New of none: %v, %d", x, e)
	}
}

// P2.1, P2.2: a full tape is drawn to its end, in order.
func TestFullTape(t *testing.T) {
	draws := make([]uint64, api.MaxTape)
	for i := range draws {
		draws[i] = uint64(i) * 3
	}
	x := of(t, draws...)
	for i := range draws {
		if v := x.Below(1 << 20); v != i*3 || x.Used() != i+1 || x.Left() != api.MaxTape-i-1 {
			t.Fatalf("draw %d: %d, Used %d, Left %d", i, v, x.Used(), x.Left())
		}
	}
	if x.Below(9) != 0 || x.Used() != api.MaxTape || x.Left() != 0 || len(x.Log()) != api.MaxTape+1 {
		t.Error("behind the end")
	}
}

// The chapter's example.
func TestExample(t *testing.T) {
	x := of(t, 7, 10, 3)
	if v := x.Below(4); v != 3 {
		t.Errorf("Below(4) = %d", v)
	}
	if v := x.Below(0); v != 0 {
		t.Errorf("Below(0) = %d", v)
	}
	if v := x.Pick([]int{0, 2, 5}); v != 2 {
		t.Errorf("Pick = %d", v)
	}
	if v := x.Below(5); v != 3 {
		t.Errorf("Below(5) = %d", v)
	}
	if v := x.Below(5); v != 0 {
		t.Errorf("Below(5), spent = %d", v)
	}
	expect(t, x, 3, 0, Draw{4, 3}, Draw{7, 3}, Draw{5, 3}, Draw{5, 0})
}

// P2.2: draws are numbers from 0 on, however great; a bound may be the greatest.
func TestBelow(t *testing.T) {
	for _, r := range []struct {
		draw uint64
		n    int
		want int
	}{
		{0, 1, 0}, {5, 1, 0}, {math.MaxUint64, 1, 0}, {4, 5, 4}, {5, 5, 0}, {6, 5, 1},
		{math.MaxUint64, 10, 5}, {1 << 63, 10, 8}, {1<<63 + 1, 7, int((uint64(1)<<63 + 1) % 7)},
		{math.MaxInt64 - 1, math.MaxInt, math.MaxInt - 1}, {math.MaxInt64, math.MaxInt, 0}, {math.MaxUint64, math.MaxInt, 1},
		{math.MaxUint64, 1 << 32, 1<<32 - 1},
	} {
		x := of(t, r.draw)
		if v := x.Below(r.n); v != r.want {
			t.Errorf("Below(%d) of %d = %d; want %d", r.n, r.draw, v, r.want)
		}
		expect(t, x, 1, 0, Draw{r.n, r.want})
	}
}

// P2.2: a bound of 0 and below.
func TestBelowNothing(t *testing.T) {
	x := of(t, 8, 9)
	for _, n := range []int{0, -1, -8, math.MinInt} {
		if v := x.Below(n); v != 0 {
			t.Errorf("Below(%d) = %d", n, v)
		}
		expect(t, x, 0, 2)
	}
	if x.Below(10) != 8 || x.Below(-1) != 0 || x.Below(10) != 9 || x.Below(0) != 0 {
		t.Error("draws behind")
	}
	expect(t, x, 2, 0, Draw{10, 8}, Draw{10, 9})
}

// P2.2: a tape that is spent answers 0, and logs it.
func TestSpent(t *testing.T) {
	x := of(t)
	if x.Below(7) != 0 || x.Below(-7) != 0 || x.Pick([]int{0, 0, 3, 4}) != 2 || x.Below(1) != 0 {
		t.Error("spent")
	}
	expect(t, x, 0, 0, Draw{7, 0}, Draw{7, 0}, Draw{1, 0})
}

// P2.3: each place as often as its weight, in order.
func TestPickPlaces(t *testing.T) {
	list := []int{0, 2, 0, 1, -5, 3, 0}
	want := []int{1, 1, 3, 5, 5, 5}
	for d := range 18 {
		x := of(t, uint64(d))
		if v := x.Pick(list); v != want[d%6] {
			t.Errorf("Pick of %d = %d; want %d", d, v, want[d%6])
		}
		expect(t, x, 1, 0, Draw{6, d % 6})
	}
}

// P2.3: weights below 0 count as 0, those above 2^20 as 2^20.
func TestPickBounds(t *testing.T) {
	for _, r := range []struct {
		list  []int
		draw  uint64
		place int
		bound int
	}{
		{[]int{greatest, 1}, greatest - 1, 0, greatest + 1},
		{[]int{greatest, 1}, greatest, 1, greatest + 1},
		{[]int{greatest + 1, 1}, greatest, 1, greatest + 1},
		{[]int{greatest - 1, 1}, greatest - 1, 1, greatest},
		{[]int{math.MaxInt, math.MaxInt}, greatest - 1, 0, 2 * greatest},
		{[]int{math.MaxInt, math.MaxInt}, greatest, 1, 2 * greatest},
		{[]int{-1, 1}, 0, 1, 1},
		{[]int{math.MinInt, 4, -3, 4}, 4, 3, 8},
		{[]int{math.MinInt, 4, -3, 4}, 3, 1, 8},
		{[]int{math.MinInt, math.MaxInt}, math.MaxUint64, 1, greatest},
		{[]int{9}, 8, 0, 9},
	} {
		x := of(t, r.draw)
		if v := x.Pick(r.list); v != r.place {
			t.Errorf("Pick(%v) of %d = %d; want %d", r.list, r.draw, v, r.place)
		}
		expect(t, x, 1, 0, Draw{r.bound, int(r.draw % uint64(r.bound))})
	}
}

// P2.3: a sum of 2^30 is drawn, one above it isn't.
func TestPickSums(t *testing.T) {
	full := weights(sumLimit/greatest, math.MaxInt)
	x := of(t, sumLimit-1, greatest)
	if v := x.Pick(full); v != len(full)-1 {
		t.Errorf("Pick of 2^30 = %d", v)
	}
	if v := x.Pick(weights(len(full)-1, greatest, greatest-1, -7, 1)); v != 1 {
		t.Errorf("Pick of 2^30 in pieces = %d", v)
	}
	expect(t, x, 2, 0, Draw{sumLimit, sumLimit - 1}, Draw{sumLimit, greatest})
	for _, list := range [][]int{
		weights(len(full), greatest, 1),
		append([]int{0, 1}, full...),
		weights(len(full)+1, greatest),
		weights(len(full)+1, greatest, -greatest, math.MinInt),
		weights(1<<16, math.MaxInt),
	} {
		y := of(t, sumLimit-1)
		if v := y.Pick(list); v != 0 {
			t.Errorf("Pick above 2^30 = %d", v)
		}
		expect(t, y, 0, 1)
	}
}

// P2.3: no weights, or none above 0.
func TestPickNone(t *testing.T) {
	x := of(t, 5)
	for _, list := range [][]int{nil, {}, {0}, {0, 0, 0}, {-1, 0, math.MinInt}} {
		if v := x.Pick(list); v != 0 {
			t.Errorf("Pick(%v) = %d", list, v)
		}
		expect(t, x, 0, 1)
	}
}

// P2.4, P1: a nil *Tape.
func TestNil(t *testing.T) {
	var x *Tape
	for _, n := range []int{math.MinInt, -1, 0, 1, math.MaxInt} {
		if x.Below(n) != 0 || x.Pick([]int{0, n, 3}) != 0 {
			t.Errorf("nil: Below or Pick of %d", n)
		}
	}
	if x.Pick(nil) != 0 || x.Pick([]int{0, 1}) != 0 || x.Used() != 0 || x.Left() != 0 || len(x.Log()) != 0 {
		t.Error("nil")
	}
}

// P1: zero values and copies of the struct don't panic.
func TestZeroAndCopies(t *testing.T) {
	x := of(t, 1, 2, 3)
	x.Below(4)
	dup := *x
	for _, y := range []*Tape{{}, &dup, x} {
		for range 5 {
			y.Below(4)
			y.Pick([]int{1, 2})
			y.Used()
			y.Left()
			y.Log()
		}
	}
}

// Memory: what is handed in may be written over behind the call, and isn't changed by it, nor its spare room.
func TestArguments(t *testing.T) {
	room := []uint64{11, 12, 13, 14}
	x := of(t, room[:2]...)
	y := of(t, room[:2]...)
	room[0], room[1] = 90, 91
	if x.Below(100) != 11 || x.Below(100) != 12 || x.Below(100) != 0 {
		t.Error("the tape kept its argument")
	}
	if !slices.Equal(room, []uint64{90, 91, 13, 14}) {
		t.Errorf("the draws are changed: %v", room)
	}
	expect(t, y, 0, 2)
	list := []int{-1, math.MaxInt, 3, 4, 5}
	y.Pick(list[:3])
	if !slices.Equal(list, []int{-1, math.MaxInt, 3, 4, 5}) {
		t.Errorf("the weights are changed: %v", list)
	}
}

// Memory: each answer of Log is new, spare room too.
func TestLogIsNew(t *testing.T) {
	x := of(t, 1, 2, 3)
	x.Below(10)
	first := x.Log()
	second := x.Log()
	first[0] = Draw{99, 98}
	for i := range first[:cap(first)] {
		first[:cap(first)][i] = Draw{97, 96}
	}
	if second[0] != (Draw{10, 1}) {
		t.Error("two answers share memory")
	}
	expect(t, x, 1, 2, Draw{10, 1})
	third := append(x.Log(), Draw{77, 76})
	x.Below(10)
	if third[1] != (Draw{77, 76}) || len(second) != 1 {
		t.Error("an answer is changed by a later call")
	}
	expect(t, x, 2, 1, Draw{10, 1}, Draw{10, 2})
}

// P2: tapes of the same draws that are asked the same answer the same, and one doesn't touch another.
func TestSameAgain(t *testing.T) {
	draws := []uint64{math.MaxUint64, 3, 1 << 40, 17, 0, 8}
	x, y, still := of(t, draws...), of(t, draws...), of(t, draws...)
	for i := -2; i < 9; i++ {
		list := []int{i, 3, -i}
		if x.Below(i) != y.Below(i) || x.Pick(list) != y.Pick(list) {
			t.Fatalf("another answer at %d", i)
		}
		expect(t, x, y.Used(), y.Left(), y.Log()...)
	}
	expect(t, still, 0, len(draws))
}

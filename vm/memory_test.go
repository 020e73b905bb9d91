package vm

import (
	"fmt"
	"math"
	"slices"
	"testing"

	"burin/api"
)

// P25.1: MIndex at 0, at Imm - 1, at Imm, below 0, and where Imm is 0 or the greatest; MOff; a and b stand where they are told.
func TestIndex(t *testing.T) {
	for _, length := range []uint32{0, 1, 2, 16, api.MaxCells, math.MaxUint32} {
		for _, place := range []int64{math.MinInt64, -1, 0, 1, int64(length) - 1, int64(length), int64(length) + 1, math.MaxInt64} {
			want := trapped(api.TrapIndex, 3)
			if 0 <= place && place < int64(length) {
				want = halted(100+place, 4)
			}
			ends(t, fmt.Sprint("index ", place, " of ", length), data(main(num(0, 100), load(1, 2), at(3, 0, 1, length), ret(3)), place), 9, want)
		}
	}
	each(t, "one register", main(num(0, 3), at(0, 0, 0, 4), ret(0)), halted(6, 3))
	for _, n := range []uint32{0, 1, math.MaxUint32} {
		ends(t, "off", main(num(0, 7), off(5, 0, n), ret(5)), 9, halted(7+int64(n), 3))
	}
	ends(t, "off from below 0", main(low(0, -7), off(0, 0, 3), ret(0)), 9, halted(-4, 3))
}

// P25.1: the globals' cells are the first ones, the frame's come behind them: MFrame and MGlobal tell a cell's number, whether or not there is one.
func TestCellNumbers(t *testing.T) {
	for _, n := range []uint32{0, 1, 2, 7, api.MaxCells, math.MaxUint32} {
		for _, globals := range []int{0, 1, 5} {
			im := framed(2, frame(1, n), global(2, n), show(2), ret(1))
			im.Data = make([]int64, globals)
			ends(t, "cell numbers", im, 9, halted(int64(globals)+int64(n), 4, int64(n)))
		}
	}
	inner := words(frame(0, 1), ret(0))
	each(t, "of a call", data(image([]int{3, 4}, inner, words(calls(1, 0), show(1), frame(1, 1), ret(1))), 8, 9), halted(3, 6, 7))
}

// touching: words that read or write a cell, by its number from 0 on, and by its number in the frame, each in two ways.
func touching(base int, cell int64) map[string][]uint64 {
	l := map[string][]uint64{
		"MLoad":  {low(1, int32(cell)), load(2, 1)},
		"MStore": {low(1, int32(cell)), store(1, 1)},
	}
	if in := cell - int64(base); in >= 0 {
		l["MGet"] = []uint64{num(3, 3), get(2, uint32(in))}
		l["MPut"] = []uint64{num(3, 3), put(3, uint32(in))}
	}
	return l
}

// P25.1: the first and the last cell that there is, one more, and below 0, with globals and a frame of any length.
func TestCellsAtTheirEdges(t *testing.T) {
	for _, globals := range []int{0, 1, 3, api.MaxCells - 2, api.MaxCells} {
		for _, cells := range []int{0, 1, 2, api.MaxCells} {
			many := globals + cells
			if many > api.MaxCells {
				continue
			}
			for _, cell := range []int64{math.MinInt32, -1, 0, int64(globals) - 1, int64(globals), int64(many) - 1, int64(many), int64(many) + 1, math.MaxInt32} {
				for what, list := range touching(globals, cell) {
					im := framed(cells, append(list, ret(7))...)
					im.Data = make([]int64, globals)
					want := trapped(api.TrapForm, 2)
					if 0 <= cell && cell < int64(many) {
						want = halted(0, 3)
					}
					ends(t, fmt.Sprintf("%s of %d of %d and %d", what, cell, globals, cells), im, 9, want)
				}
			}
		}
	}
	for _, far := range []int64{math.MinInt64, math.MaxInt64, 1 << 32, -1 << 32} {
		ends(t, "far", data(main(load(1, 0), load(2, 1), ret(2)), far), 9, trapped(api.TrapForm, 2))
		ends(t, "far", data(main(load(1, 0), store(1, 1), ret(2)), far), 9, trapped(api.TrapForm, 2))
	}
	ends(t, "the greatest Imm", framed(api.MaxCells, get(1, math.MaxUint32), ret(1)), 9, trapped(api.TrapForm, 1))
	ends(t, "the greatest Imm", framed(api.MaxCells, put(1, math.MaxUint32), ret(1)), 9, trapped(api.TrapForm, 1))
}

// P25.1: what was written is read again, the one way and the other, by the caller too; every other cell is as it was.
func TestCellsHold(t *testing.T) {
	inner := words(num(0, 50), put(0, 1), par(1, 0), load(2, 1), show(2), store(1, 0), global(3, 1), num(4, 60), store(3, 4), get(5, 0), show(5), get(5, 1), show(5), ret(6))
	outer := words(num(0, 11), put(0, 0), num(0, 12), put(0, 1), frame(1, 1), arg(0, 1), calls(7, 0), get(2, 0), show(2), get(2, 1), show(2),
		global(1, 0), load(2, 1), show(2), off(1, 1, 1), load(2, 1), show(2), frame(1, 0), load(2, 1), ret(2))
	im := data(image([]int{2, 2}, inner, outer), -70, -71)
	each(t, "cells", im, halted(11, len(inner)+len(outer), 12, 0, 50, 11, 50, -70, 60))
}

// P25.1: the cells of a frame are 0 at each call, also where another call's frame lay, whoever wrote there; those of the frames of calls that are open still are as they were.
func TestFramesAreZero(t *testing.T) {
	dirty := words(get(1, 0), show(1), get(1, 2), show(1), num(0, 9), put(0, 0), put(0, 2), ret(0))          // 0: writes two of its three cells
	writes := words(par(0, 0), num(1, 8), store(0, 1), put(1, 0), ret(1))                                    // 1: writes where it was led to, and its own cell
	passes := words(frame(0, 3), arg(0, 0), calls(1, 1), get(2, 3), show(2), calls(1, 0), get(2, 3), ret(2)) // 2: has the last of its four cells written by a call
	again := words(calls(0, 2), show(0), calls(0, 0), calls(0, 2), show(0), calls(0, 0), get(1, 0), ret(1))  // 3: its own cell is never written
	round := []int64{8, 0, 0, 8, 0, 0}                                                                       // what passes shows, dirty in it, what passes answers, dirty
	steps := len(again) + 2*(len(passes)+len(writes)+2*len(dirty))
	each(t, "frames", image([]int{3, 1, 4, 1}, dirty, writes, passes, again), halted(0, steps, slices.Concat(round, round)...))
	// A cell that comes to be 0 again, and one that is written many times.
	many := words(num(0, 5), num(1, 0), put(0, 0), put(1, 0), put(0, 0), put(0, 0), put(1, 1), ret(0))
	sum := words(get(0, 0), get(1, 1), do(api.Add, api.I32, 0, 0, 1), ret(0))
	each(t, "where another lay", image([]int{2, 2, 0}, many, sum, words(calls(0, 0), calls(0, 1), show(0), ret(0))), halted(0, 4+len(many)+len(sum), 0))
	// Calls without cells begin at the same place as others: what is written belongs to the one that has cells.
	none := words(par(0, 0), num(1, 7), store(0, 1), ret(0))
	has := words(get(2, 0), show(2), frame(0, 0), arg(0, 0), calls(1, 0), get(2, 0), ret(2))
	leads := words(calls(3, 1), ret(3))
	each(t, "calls without cells", image([]int{0, 1, 0, 0}, none, has, leads, words(calls(0, 2), show(0), calls(0, 2), ret(0))), halted(7, 4+2*(len(none)+len(has)+len(leads)), 0, 7, 0))
}

// P25.1: frames that fill memory just to MaxCells cells, and one more; the cells are there, and gone when their call is over.
func TestMemoryIsFull(t *testing.T) {
	for _, globals := range []int{0, 1, 1000, api.MaxCells} {
		for _, first := range []int{0, 1, 1000, api.MaxCells} {
			for _, more := range []int{-1, 0, 1} {
				second := api.MaxCells - globals - first + more
				if second < 0 || second > api.MaxCells || globals+first > api.MaxCells {
					continue
				}
				inner := words(global(1, uint32(globals+first+second-1)), load(1, 1), show(1), ret(1))
				im := image([]int{second, first}, inner, words(calls(2, 0), calls(2, 0), ret(2)))
				im.Data = make([]int64, globals)
				want := halted(0, 11, 0, 0)
				if globals+first+second == 0 {
					continue
				}
				if more > 0 {
					want = trapped(api.TrapForm, 1)
				}
				each(t, fmt.Sprint("full by ", globals, first, second), im, want)
			}
		}
	}
	gone := image([]int{10, 5}, words(ret(0)), words(calls(0, 0), num(1, 15), load(2, 1), ret(2)))
	each(t, "a frame that is gone", gone, trapped(api.TrapForm, 4))
}

// P25.1: a first call for which there is no room traps behind 0 steps, whatever the fuel.
func TestNoRoomForTheFirstCall(t *testing.T) {
	for _, globals := range []int{0, 1, 7, api.MaxCells} {
		im := framed(api.MaxCells-globals, show(0), ret(0))
		im.Data = make([]int64, globals)
		each(t, "just room", im, halted(0, 2, 0))
		if im.Frames[0]++; im.Frames[0] > api.MaxCells {
			continue
		}
		for _, fuel := range []int{0, 1, api.MaxFuel} {
			ends(t, "no room", im, fuel, trapped(api.TrapForm, 0))
		}
	}
}

// Great frames that are hardly written, called again and again, take no longer than their steps do; nor do those that a call far within writes to.
func TestGreatFrames(t *testing.T) {
	last := uint32(api.MaxCells - 2)
	inner := words(get(1, last), num(2, 7), put(2, last), ret(1))
	im := image([]int{api.MaxCells - 1, 1}, inner, words(calls(0, 0), show(0), jump(uint32(len(inner)))))
	o, e := Run(im, api.MaxFuel)
	if e != api.OK || !o.Fuel || len(o.Trace) < 1000000 || slices.Max(o.Trace) != 0 {
		t.Errorf("%d steps, %d, %d printed", o.Steps, e, len(o.Trace))
	}
	frames, functions := []int{0}, [][]uint64{words(par(0, 0), par(1, 1), num(2, 1), store(0, 1), off(0, 0, 1), do(api.Sub, api.I32, 1, 1, 2), zero(1, 8), jump(3), ret(0))}
	for k := range 1990 {
		frames = append(frames, 0)
		functions = append(functions, words(par(0, 0), arg(0, 0), par(0, 1), arg(1, 0), calls(0, uint32(k)), ret(0)))
	}
	led := words(get(3, 49999), show(3), frame(0, 0), arg(0, 0), num(0, 50000), arg(1, 0), calls(0, 1990), get(3, 49999), show(3), ret(0))
	im = image(append(frames, 60000, 0), append(functions, led, words(calls(0, 1991)))...)
	im.Words = append(im.Words, jump(uint32(im.Starts[1992])))
	o, e = Run(im, api.MaxFuel)
	if e != api.OK || !o.Fuel || len(o.Trace) < 50 || !slices.Equal(o.Trace[:4], []int64{0, 1, 0, 1}) {
		t.Errorf("%d steps, %d, %v", o.Steps, e, o.Trace)
	}
}

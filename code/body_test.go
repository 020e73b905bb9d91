package code_test

import (
	"math/rand"
	"reflect"
	"slices"
	"testing"

	"burin/api"
	"burin/code"
	"burin/ir"
)

// P24.2: slots and globals: each cell is one of its own, at each call 0, and reached by IOff and IIndex.
func TestCells(t *testing.T) {
	var insts []api.Inst
	for n := range int64(3) { // write each cell of both, then print all
		for k := range n + 2 {
			insts = append(insts, slot(0, n), off(0, 0, k), num(1, 10*n+k+1), store(0, 1))
			insts = append(insts, global(0, n), num(2, k), at(0, 0, 2, n+2), num(1, 100+10*n+k), store(0, 1))
		}
	}
	for n := range int64(3) {
		for k := range n + 2 {
			insts = append(insts, slot(0, n), num(2, k), at(0, 0, 2, n+2), load(1, 0), show(1))
			insts = append(insts, global(0, n), off(0, 0, k), load(1, 0), show(1))
		}
	}
	c := with(of(fn(0, 3, []int{2, 3, 4}, end(1, insts...))), []int{2, 3, 4}, -1, -2, -3)
	o := each(t, "cells", c)
	if !o.Halted || len(o.Trace) != 18 || o.Trace[0] != 1 || o.Trace[17] != 123 {
		t.Errorf("%+v", o)
	}
	first := with(main(2, 1, global(0, 0), load(1, 0), show(1), global(0, 1), load(1, 0), show(1), off(0, 0, 1), load(1, 0), show(1)), []int{1, 2}, -1<<63, 1<<63-1)
	each(t, "first numbers", first)
	halts(t, "first numbers", first, 0, -1<<63, 1<<63-1, 0)
	dirty := fn(1, 3, []int{3}, end(2, slot(1, 0), off(1, 1, 2), load(2, 1), show(2), store(1, 0), load(2, 1)))
	again := of(dirty, fn(0, 2, []int{2}, end(1, num(0, 5), calls(1, 0, 0), show(1), calls(1, 0, 1), show(1))))
	each(t, "a frame where another lay", again)
	halts(t, "a frame where another lay", again, 5, 0, 5, 0, 5)
}

// P24.2: an index just within and just beyond; below 0 it traps, too.
func TestIndexes(t *testing.T) {
	for _, length := range []int64{1, 2, 16, api.MaxCells} {
		for _, place := range []int64{-1 << 31, -1, 0, length - 1, length, 1<<32 - 1} {
			c := with(main(3, 2, global(0, 0), num(1, place), at(0, 0, 1, length), load(2, 0), show(2)), []int{api.MaxCells - 200}, 8)
			if place >= api.MaxCells-200 && place < length {
				continue // there is an index, but no such cell
			}
			if o := each(t, "index", c); o.Halted != (0 <= place && place < length) || !o.Halted && o.Trap != api.TrapIndex {
				t.Errorf("%d of %d: %+v", place, length, o)
			}
		}
	}
}

// P24.2: addresses that are handed on to calls within calls, and what they lead to is written there.
func TestCallsWithinCalls(t *testing.T) {
	fns := []api.Fn{fn(2, 3, nil, end(2, load(2, 0), do(api.Add, api.U32, 2, 2, 1), store(0, 2), show(2)))}
	for k := range 60 {
		fns = append(fns, fn(2, 6, []int{1 + k%3}, end(3,
			slot(2, 0), store(2, 1), calls(3, int64(k), 0, 1), show(3), num(4, 7), calls(5, int64(k/2), 2, 4), load(3, 2), do(api.Xor, api.U32, 3, 3, 5))))
		if k > 6 {
			fns[k+1].Parts[0].Insts[5] = show(4) // two calls in each would be too many
		}
	}
	c := with(of(append(fns, fn(0, 4, nil, end(2, global(0, 0), num(1, 3), calls(2, 60, 0, 1), show(2), load(2, 0))))...), []int{1}, 40)
	if o := each(t, "calls", c); !o.Halted || o.Exit != 43 {
		t.Errorf("%+v", o)
	}
	// What is behind a call is as it was ahead of it, and what it answers comes to its place alone.
	for dst := range 12 {
		keep := fn(0, 12, nil, end(dst, append(allLive(12), append([]api.Inst{calls(dst, 0, dst, 11-dst)}, allLive(12)[12:]...)...)...))
		each(t, "an answer", of(fn(2, 3, nil, end(2, do(api.Sub, api.I32, 2, 0, 1))), keep))
	}
}

// P24.2: as many calls within one another as the machine may have open.
func TestDeepCalls(t *testing.T) {
	for _, many := range []int{1000, 1999, 2000} {
		fns := []api.Fn{fn(1, 1, nil, end(0, show(0)))}
		for k := 1; k < many-1; k++ {
			fns = append(fns, fn(1, 3, nil, end(0, num(1, 1), do(api.Add, api.I32, 2, 0, 1), calls(2, int64(k-1), 2), do(api.Add, api.I32, 0, 0, 2))))
		}
		fns = append(fns, fn(0, 1, nil, end(0, calls(0, int64(many-2), 0), show(0))))
		if o := both(t, "deep", of(fns...)); !o.Halted || o.Trace[0] != int64(many-2) {
			t.Errorf("%d calls: %+v", many, o)
		}
	}
}

// P24.2: ways through parts: on to the next one, back, round, to themselves; conditions that are kept in cells; registers that are read ahead of being written are 0.
func TestParts(t *testing.T) {
	for _, place := range []int{0, 1, 2, 3} { // where the part that counts stands
		parts := []api.Part{jump(1), jump(2), jump(3), branch(2, 0, 4), end(0, show(0), show(1), show(2))}
		parts[place].Insts = []api.Inst{num(3, 1), do(api.Add, api.I32, 0, 0, 3), num(3, 5), do(api.Lt, api.I32, 2, 0, 3), show(4), move(4, 0)}
		o := each(t, "a loop", of(fn(0, 5, nil, parts...)))
		if !o.Halted || o.Exit != 5 {
			t.Errorf("%+v", o)
		}
	}
	for cond := range int64(3) {
		for next := 1; next < 4; next++ {
			for other := 1; other < 4; other++ {
				c := of(fn(0, 2, nil, branch(0, next, other, num(0, cond-1)), end(0, num(1, 1), show(1)), end(0, num(1, 2), show(1)), end(0, num(1, 3), show(1))))
				want := int64(next)
				if cond == 1 {
					want = int64(other)
				}
				if o := each(t, "a branch", c); !o.Halted || o.Trace[0] != want {
					t.Errorf("%d: %+v; want %d", cond, o, want)
				}
			}
		}
	}
	each(t, "the end stands first", of(fn(0, 2, nil, branch(0, 2, 1), jump(3, num(0, 1), show(1)), end(0, show(0)), jump(0, show(0)))))
	each(t, "parts that nobody reaches", of(fn(0, 3, nil, jump(3), end(2, show(1)), jump(2), end(0, show(0)), branch(1, 4, 4))))
	each(t, "the last part goes on", of(fn(0, 1, nil, jump(2), end(0), jump(1, show(0)))))
	var zeros []api.Inst
	for k := range 30 {
		zeros = append(zeros, show(k), num(k, 5))
	}
	each(t, "read ahead of being written", of(fn(1, 30, nil, end(29, zeros...)), fn(0, 30, nil, end(29, append(zeros, calls(3, 0, 4), show(3), calls(3, 0, 4))...))))
	im := image(t, of(fn(0, 0, nil, jump(0))), false)
	if o := done(t, im, 10); !o.Fuel || len(o.Trace) > 0 {
		t.Errorf("a run without an end: %+v", o)
	}
}

// P24.2, P1: code that isn't right: ir.Valid's error, with the fault and without; nil and empty lists.
func TestErrors(t *testing.T) {
	for what, c := range map[string]api.Code{
		"nothing":                 {},
		"no function":             {Fns: []api.Fn{}},
		"no part":                 of(fn(0, 1, nil)),
		"no register":             of(fn(0, 0, nil, end(0))),
		"a last one with a value": of(fn(1, 1, nil, end(0))),
		"no Inits":                {Globals: []int{1}, Fns: []api.Fn{fn(0, 1, nil, end(0))}},
		"no cell":                 with(main(1, 0), []int{0}, 1),
		"too many cells":          with(main(1, 0), []int{api.MaxCells + 1}, 1),
		"too many slots":          of(fn(0, 1, []int{api.MaxCells, 1}, end(0))),
		"registers beyond all":    main(api.MaxRegs+1, 0),
		"no Op":                   main(1, 0, do(0, 0, 0, 0, 0)),
		"LAnd":                    main(1, 0, do(api.LAnd, 0, 0, 0, 0)),
		"no Type":                 main(1, 0, do(api.Add, 6, 0, 0, 0)),
		"no such A":               main(1, 0, do(api.Add, 0, 0, 1, 0)),
		"no such B":               main(1, 0, do(api.Add, 0, 0, 0, -1)),
		"no such Dst":             main(1, 0, num(1, 5)),
		"no such slot":            main(1, 0, slot(0, 0)),
		"no such global":          main(1, 0, global(0, 0)),
		"no index":                main(1, 0, at(0, 0, 0, 0)),
		"no such function":        main(1, 0, calls(0, 0)),
		"no such part":            of(fn(0, 1, nil, jump(1))),
		"no other part":           of(fn(0, 1, nil, branch(0, 0, -1))),
		"not right, too great":    main(1, 1, num(0, 1<<40)),
	} {
		if e := ir.Valid(c); e != api.ErrForm {
			t.Fatalf("%s: Valid %d", what, e)
		}
		refused(t, what, c, api.ErrForm)
	}
	want := image(t, of(fn(0, 1, nil, end(0, show(0)))), false)
	empty := api.Code{Globals: []int{}, Inits: []int64{}, Fns: []api.Fn{{Regs: 1, Slots: []int{}, Parts: []api.Part{{Insts: []api.Inst{{Op: api.IPrint, Args: []int{}}}, End: true}}}}}
	if got := image(t, empty, false); !slices.Equal(got.Words, want.Words) || !slices.Equal(got.Frames, want.Frames) {
		t.Errorf("empty lists: %+v; want %+v", got, want)
	}
}

// P24.2: what an instruction doesn't look at may be any number.
func TestFieldsThatAreNotLookedAt(t *testing.T) {
	r := rand.New(rand.NewSource(25))
	c := with(of(fn(1, 2, nil, end(1, move(1, 0))), fn(0, 5, []int{3}, branch(4, 1, 1,
		num(0, 5), move(1, 0), do(api.INeg, 4, 2, 0, 0), do(api.ICast, 1, 2, 2, 0), slot(3, 0), num(0, 1), at(3, 3, 0, 3), off(3, 3, 1), store(3, 2), load(4, 3),
		show(4), global(3, 0), load(1, 3), calls(2, 0, 1), show(2)), end(2))), []int{1}, 77)
	want := both(t, "as it is", c)
	any := func() int { return []int{-1 << 63, -1, 0, 3, 8, 1 << 40, 1<<63 - 1}[r.Intn(7)] }
	for range 300 {
		d := ir.Copy(c)
		d.Fns[1].Parts[1].Next, d.Fns[1].Parts[1].Else = any(), any()
		insts := d.Fns[1].Parts[0].Insts
		for k := range insts {
			i := &insts[k]
			reads := len(ir.Uses(*i))
			if reads < 1 || i.Op == api.ICall {
				i.A = any()
			}
			if reads < 2 {
				i.B = any()
			}
			if !ir.Dst(*i) {
				i.Dst = any()
			}
			if i.Op != api.ICall {
				i.Args = []int{any(), any()}
			}
			if slices.Contains([]byte{api.IMove, api.INeg, api.ICast, api.ILoad, api.IStore, api.IPrint}, i.Op) {
				i.Imm = int64(any())
			}
			if i.Op > api.ICast {
				i.Type = byte(r.Intn(6))
			}
		}
		if got := both(t, "with noise", d); !alike(got, want) {
			t.Fatalf("%+v: %+v; want %+v", d, got, want)
		}
	}
}

// full is an image with what stands in the spare room of its lists.
func full(im code.Image) code.Image {
	im.Words, im.Starts, im.Frames, im.Data = slices.Clone(im.Words[:cap(im.Words)]), slices.Clone(im.Starts[:cap(im.Starts)]), slices.Clone(im.Frames[:cap(im.Frames)]), slices.Clone(im.Data[:cap(im.Data)])
	return im
}

func fill[T any](l []T, v T) {
	for k := range l[:cap(l)] {
		l[:cap(l)][k] = v
	}
}

// P2, and the rule of memory: the same code gives the same image; no list of it shares memory with the code, with another list or with an earlier image.
func TestMemory(t *testing.T) {
	build := func() api.Code {
		insts := append(make([]api.Inst, 0, 20), slot(0, 0), num(1, 5), store(0, 1), calls(2, 0, 1, 1), show(2), global(0, 1), load(1, 0))
		return api.Code{
			Globals: append(make([]int, 0, 5), 2, 3),
			Inits:   append(make([]int64, 0, 5), 8, 9),
			Fns: append(make([]api.Fn, 0, 5), fn(2, 3, append(make([]int, 0, 5), 4), end(2, do(api.Lt, api.I32, 2, 0, 1))),
				crowd(fn(0, 3, append(make([]int, 0, 5), 4), end(2, insts...)), 9)),
		}
	}
	for _, fault := range []bool{false, true} {
		c := build()
		first := image(t, c, fault)
		want := full(first)
		second := image(t, c, fault)
		if !reflect.DeepEqual(c, build()) || c.Globals[:5][4] != 0 || c.Inits[:5][4] != 0 || c.Fns[0].Slots[:5][4] != 0 || c.Fns[:5][4].Parts != nil {
			t.Error("what was handed in is changed")
		}
		fill(first.Starts, 77)
		fill(first.Frames, 78)
		if slices.Contains(first.Starts[:cap(first.Starts)], 78) {
			t.Error("two lists share memory")
		}
		fill(first.Words, 79)
		fill(first.Data, 80)
		if !reflect.DeepEqual(c, build()) || !reflect.DeepEqual(full(second), want) {
			t.Error("an image shares memory")
		}
		for _, f := range c.Fns {
			for _, p := range f.Parts {
				for k := range p.Insts {
					fill(p.Insts[k].Args, 9)
				}
				fill(p.Insts, api.Inst{})
			}
			fill(f.Slots, 9)
		}
		fill(c.Globals, 9)
		fill(c.Inits, 9)
		if !reflect.DeepEqual(full(second), want) || !reflect.DeepEqual(full(image(t, build(), fault)), want) {
			t.Error("what was handed in is kept, or an image hangs on an earlier one")
		}
	}
}

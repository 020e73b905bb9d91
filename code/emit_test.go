package code_test

import (
	"fmt"
	"math"
	"reflect"
	"slices"
	"testing"

	"burin/api"
	"burin/code"
	"burin/ints"
	"burin/ir"
	"burin/run"
	"burin/vm"
)

// Instructions by short names.
func num(dst int, n int64) api.Inst    { return api.Inst{Op: api.IConst, Dst: dst, Imm: n} }
func move(dst, a int) api.Inst         { return api.Inst{Op: api.IMove, Dst: dst, A: a} }
func slot(dst int, n int64) api.Inst   { return api.Inst{Op: api.ISlot, Dst: dst, Imm: n} }
func global(dst int, n int64) api.Inst { return api.Inst{Op: api.IGlobal, Dst: dst, Imm: n} }
func off(dst, a int, n int64) api.Inst { return api.Inst{Op: api.IOff, Dst: dst, A: a, Imm: n} }
func load(dst, a int) api.Inst         { return api.Inst{Op: api.ILoad, Dst: dst, A: a} }
func store(a, b int) api.Inst          { return api.Inst{Op: api.IStore, A: a, B: b} }
func show(a int) api.Inst              { return api.Inst{Op: api.IPrint, A: a} }

func do(op, t byte, dst, a, b int) api.Inst {
	return api.Inst{Op: op, Type: t, Dst: dst, A: a, B: b}
}

func at(dst, a, b int, n int64) api.Inst {
	return api.Inst{Op: api.IIndex, Dst: dst, A: a, B: b, Imm: n}
}

func calls(dst int, fn int64, args ...int) api.Inst {
	return api.Inst{Op: api.ICall, Dst: dst, Imm: fn, Args: args}
}

func end(cond int, insts ...api.Inst) api.Part { return api.Part{Insts: insts, End: true, Cond: cond} }

func jump(next int, insts ...api.Inst) api.Part { return api.Part{Insts: insts, Cond: -1, Next: next} }

func branch(cond, next, other int, insts ...api.Inst) api.Part {
	return api.Part{Insts: insts, Cond: cond, Next: next, Else: other}
}

func fn(params, regs int, slots []int, parts ...api.Part) api.Fn {
	return api.Fn{Params: params, Regs: regs, Slots: slots, Parts: parts}
}

func of(fns ...api.Fn) api.Code { return api.Code{Fns: fns} }

// main is code of one function with one part.
func main(regs, cond int, insts ...api.Inst) api.Code {
	return of(fn(0, regs, nil, end(cond, insts...)))
}

func with(c api.Code, globals []int, inits ...int64) api.Code {
	c.Globals, c.Inits = globals, inits
	return c
}

// image: what Emit makes of code that it takes, which the machine must take.
func image(t *testing.T, c api.Code, fault bool) code.Image {
	t.Helper()
	im, e := code.Emit(c, fault)
	if e != api.OK {
		t.Fatalf("Emit: %d", e)
	}
	if len(im.Words) > 4*api.MaxInsts || len(im.Starts) != len(c.Fns) || len(im.Frames) != len(c.Fns) {
		t.Fatalf("%d words, %d Starts, %d Frames of %d functions", len(im.Words), len(im.Starts), len(im.Frames), len(c.Fns))
	}
	for _, v := range im.Words {
		if w, e := code.Decode(v); e != api.OK || max(w.D, w.A, w.B) >= api.Regs || w.Type > api.U32 {
			t.Fatalf("the word %x", v)
		}
	}
	if _, e := vm.Run(im, 0); e != api.OK {
		t.Fatalf("the machine takes no image of Emit's: %d", e)
	}
	return im
}

// done: how the machine's run of an image ends, if it may take as many steps as P24.2 says for so many of layer 14's.
func done(t *testing.T, im code.Image, steps int) api.Outcome {
	t.Helper()
	o, e := vm.Run(im, min(40*steps+20000, api.MaxFuel))
	if e != api.OK {
		t.Fatalf("Run: %d", e)
	}
	return o
}

func alike(a, b api.Outcome) bool {
	return a.Halted == b.Halted && a.Exit == b.Exit && a.Trap == b.Trap && a.Fuel == b.Fuel && slices.Equal(a.Trace, b.Trace)
}

// both runs code and the image of it, which must end alike.
func both(t *testing.T, what string, c api.Code) api.Outcome {
	t.Helper()
	want, e := run.Run(c, api.MaxFuel)
	if e != api.OK {
		t.Fatalf("%s: run.Run: %d", what, e)
	}
	if got := done(t, image(t, c, false), want.Steps); !alike(want, got) {
		t.Fatalf("%s: %+v; want %+v", what, got, want)
	}
	return want
}

// halts asks that code halts so on both sides.
func halts(t *testing.T, what string, c api.Code, exit int64, trace ...int64) {
	t.Helper()
	if o := both(t, what, c); !o.Halted || o.Exit != exit || !slices.Equal(o.Trace, trace) {
		t.Fatalf("%s: %+v", what, o)
	}
}

func refused(t *testing.T, what string, c api.Code, want api.Errno) {
	t.Helper()
	for _, fault := range []bool{false, true} {
		im, e := code.Emit(c, fault)
		if e != want || want != api.OK && !reflect.DeepEqual(im, code.Image{}) {
			t.Errorf("%s, fault %v: %d words, %d; want %d", what, fault, len(im.Words), e, want)
		}
	}
}

// crowd: the same function, ahead of which so many new registers are written, which are printed at all of its ends: so that not all that it has are in the machine's registers.
func crowd(f api.Fn, many int) api.Fn {
	f = ir.Copy(of(f)).Fns[0]
	first := f.Regs
	f.Regs += many
	begin := jump(1)
	for k := range many {
		begin.Insts = append(begin.Insts, num(first+k, int64(1000+k)))
	}
	for n := range f.Parts {
		p := &f.Parts[n]
		p.Next, p.Else = p.Next+1, p.Else+1
		if p.End {
			for k := range many {
				p.Insts = append(p.Insts, show(first+k))
			}
		}
	}
	f.Parts = slices.Insert(f.Parts, 0, begin)
	return f
}

// crowded: the same code with so many new registers in each function.
func crowded(c api.Code, many int) api.Code {
	c = ir.Copy(c)
	for n := range c.Fns {
		c.Fns[n] = crowd(c.Fns[n], many)
	}
	return c
}

// each runs both sides of code as it is, and where registers are kept in cells, some or all.
func each(t *testing.T, what string, c api.Code) api.Outcome {
	t.Helper()
	for many := 1; many < 10; many++ {
		both(t, what, crowded(c, many))
	}
	both(t, what, crowded(c, 40))
	return both(t, what, c)
}

// numbers at which each operation is asked: about the edges of each type.
var numbers = []int64{0, 1, 2, 7, 8, 31, 32, 127, 128, 255, 256, 32767, 32768, 65535, 65536, math.MaxInt32, math.MaxInt32 + 1, math.MaxUint32,
	-1, -2, -128, -129, -32768, -32769, math.MinInt32}

// P24.2: each operation of two numbers, of each type, with its traps; in the machine's registers, and in cells.
func TestOperations(t *testing.T) {
	for op := api.Add; op <= api.Ne; op++ {
		for typ := range byte(6) {
			for n, a := range numbers {
				for m, b := range numbers {
					c := main(3, 2, num(0, a), num(1, b), do(op, typ, 2, 0, 1), show(0), show(1), show(2))
					both(t, fmt.Sprint("operation ", op, typ, a, b), crowded(c, (n+m)%12))
				}
			}
			each(t, "one register", main(1, 0, num(0, 3), do(op, typ, 0, 0, 0), show(0)))
			each(t, "the other one", main(2, 0, num(0, 3), num(1, 2), do(op, typ, 1, 1, 0), do(op, typ, 0, 1, 1), show(0)))
		}
	}
}

// P24.2: INeg, INot, IBang, ICast of each type, IConst, IMove.
func TestOneNumber(t *testing.T) {
	for n, a := range numbers {
		halts(t, "a number", main(1, 0, num(0, a), show(0)), a, a)
		halts(t, "a move", main(2, 1, num(0, a), move(1, 0), show(0)), a, a)
		each(t, "a move", main(2, 1, num(0, a), move(1, 0), num(0, 5), show(0), show(1), move(1, 1), move(0, 1), show(0)))
		for typ := range byte(6) {
			for _, op := range []byte{api.INeg, api.INot, api.IBang, api.ICast} {
				both(t, fmt.Sprint("operation ", op, typ, a), crowded(main(2, 1, num(0, a), do(op, typ, 1, 0, 0), show(0), show(1)), n%12))
				both(t, "one register", crowded(main(1, 0, num(0, a), do(op, typ, 0, 0, 0), show(0)), n%12))
			}
		}
	}
}

// P24.2: an IConst's number at the edges of I32 and U32, wherever it stands: also where no run comes.
func TestGreatNumbers(t *testing.T) {
	for _, r := range []struct {
		n int64
		e api.Errno
	}{
		{math.MinInt32, api.OK}, {math.MinInt32 + 1, api.OK}, {-1, api.OK}, {0, api.OK},
		{math.MaxInt32, api.OK}, {math.MaxInt32 + 1, api.OK}, {math.MaxUint32 - 1, api.OK}, {math.MaxUint32, api.OK},
		{math.MinInt32 - 1, api.ErrLimit}, {math.MaxUint32 + 1, api.ErrLimit}, {math.MinInt64, api.ErrLimit}, {math.MaxInt64, api.ErrLimit},
		{1 << 32, api.ErrLimit}, {-1 << 32, api.ErrLimit}, {-math.MaxUint32, api.ErrLimit},
	} {
		i := num(0, r.n)
		for what, c := range map[string]api.Code{
			"a number":                       main(1, 0, i),
			"behind others":                  main(2, 0, num(1, 5), show(1), i, show(0)),
			"in a part that nobody reaches":  of(fn(0, 1, nil, end(0), end(0, i))),
			"in a function that isn't asked": of(fn(0, 1, nil, end(0, i)), fn(0, 1, nil, end(0))),
			"ahead of a call":                of(fn(1, 1, nil, end(0)), fn(0, 1, nil, end(0, i, calls(0, 0, 0), show(0)))),
		} {
			refused(t, what, c, r.e)
			if r.e == api.OK {
				each(t, what, c)
			}
		}
		// In every other instruction such a number isn't looked at.
		still := main(2, 1, api.Inst{Op: api.IMove, Dst: 1, Imm: r.n}, api.Inst{Op: api.Add, Imm: r.n}, api.Inst{Op: api.IPrint, Imm: r.n})
		refused(t, "not looked at", still, api.OK)
		both(t, "not looked at", still)
		both(t, "a global's number", with(main(1, 0, global(0, 0), load(0, 0), show(0)), []int{2}, r.n))
	}
}

// P24.2: parameters from none to MaxArgs, in the machine's registers and in cells, read and not read, written ahead of being read; one more is refused, also where nobody calls the function.
func TestParameters(t *testing.T) {
	for many := range api.MaxArgs + 1 {
		var args []int
		callee, caller := fn(many, many+1, nil, end(many)), fn(0, many+1, nil, end(many))
		for k := range many {
			args = append(args, k)
			caller.Parts[0].Insts = append(caller.Parts[0].Insts, num(k, int64(10+k)))
			callee.Parts[0].Insts = append(callee.Parts[0].Insts, do(api.Sub, api.I32, many, many, k), show(k))
		}
		caller.Parts[0].Insts = append(caller.Parts[0].Insts, calls(many, 0, args...), show(many))
		each(t, "all are read", of(callee, caller))
		slices.Reverse(args)
		each(t, "the other order", of(callee, caller))
		for k := range args {
			args[k] = many / 2
		}
		each(t, "one and the same", of(callee, caller))
		each(t, "none is read", of(fn(many, many+1, nil, end(many, num(many, 7), show(many))), caller))
		for k := range many {
			each(t, "one is read", of(fn(many, many+1, nil, end(k, show(k))), caller))
			each(t, "one is written first", of(fn(many, many+1, nil, end(many, num(k, 3), do(api.Add, api.I32, many, k, many-1), show(many))), caller))
			each(t, "one is read on one way", of(fn(many, many+1, nil, branch(k, 1, 2), end(many, num(0, 9), show(0)), end(many, show(0))), caller))
		}
		each(t, "a loop", of(fn(many, many+2, nil, jump(1, num(many, 1), num(many+1, 3)),
			branch(many+1, 1, 2, append(slices.Clone(callee.Parts[0].Insts), do(api.Sub, api.I32, many+1, many+1, many))...), end(many)), caller))
	}
	for _, many := range []int{api.MaxArgs + 1, api.Regs, api.Regs + 1, api.MaxRegs} {
		f := fn(many, many, nil, end(0))
		refused(t, "too many parameters", of(f, fn(0, 1, nil, end(0))), api.ErrLimit)
		refused(t, "too many parameters, called", of(f, fn(0, 1, nil, end(0, calls(0, 0, make([]int, many)...)))), api.ErrLimit)
	}
	most := fn(api.MaxArgs, api.MaxArgs, nil, end(0))
	refused(t, "just as many", of(most, most, fn(0, 1, nil, end(0))), api.OK)
	refused(t, "one of some", of(most, fn(api.MaxArgs+1, api.MaxArgs+1, nil, end(0)), most, fn(0, 1, nil, end(0))), api.ErrLimit)
}

// allLive: so many registers are written, and read behind that.
func allLive(many int) []api.Inst {
	var insts []api.Inst
	for k := range many {
		insts = append(insts, num(k, int64(7*k-3)))
	}
	for k := range many {
		insts = append(insts, show(k))
	}
	return insts
}

// P24.2: a function whose slots and registers are, with 64 more, just MaxCells together is never refused, and runs; nor is one whose registers need no cells.
func TestFrames(t *testing.T) {
	for _, regs := range []int{2, 6, 7, 8, 9, 64, 1000, api.MaxRegs} {
		most := api.MaxCells - 64 - regs
		for _, slots := range [][]int{{most}, {most - 1}, {1, most - 1}, {most / 2, most - most/2}, slices.Repeat([]int{16}, most/16)} {
			f := fn(0, regs, slots, end(regs-1, allLive(regs)...))
			both(t, fmt.Sprint("registers ", regs), of(f))
			f.Parts[0].Insts = append(f.Parts[0].Insts, slot(0, int64(len(slots)-1)), off(0, 0, int64(slots[len(slots)-1]-1)), num(1, 9), store(0, 1), load(1, 0), show(1))
			both(t, fmt.Sprint("registers ", regs, ", the last cell"), of(f))
		}
	}
	for few := 1; few <= 6; few++ {
		both(t, "slots that fill all", of(fn(0, few, []int{api.MaxCells}, end(0, allLive(few)...))))
		halts(t, "globals that fill all", with(main(few, 0, num(0, 3), show(0)), []int{api.MaxCells - 1, 1}, 5, 6), 3, 3)
	}
	for _, many := range []int{40, 300, api.MaxRegs} {
		refused(t, "too great a frame", of(fn(0, many, []int{api.MaxCells}, end(0, allLive(many)...))), api.ErrLimit)
		refused(t, "that nobody needs", of(fn(0, many, []int{api.MaxCells}, end(0, allLive(many)...)), fn(0, 1, nil, end(0))), api.ErrLimit)
	}
	if im := image(t, with(of(fn(0, 3, []int{5, 7}, end(0)), fn(0, 3, nil, end(0))), []int{2, 3}, 8, 9), false); im.Frames[0] != 12 || im.Frames[1] != 0 || len(im.Data) != 5 {
		t.Errorf("%+v: cells that nobody needs", im)
	}
}

// P24.2: memory that the code fills just to its last cell, over several calls that are open, as long as few registers are used.
func TestMemoryIsFull(t *testing.T) {
	third := api.MaxCells / 4
	inner := fn(1, 3, []int{third}, end(2, slot(1, 0), off(1, 1, int64(third-1)), store(1, 0), load(2, 1), show(2)))
	middle := fn(1, 3, []int{third, third - 2}, end(2, slot(1, 1), off(1, 1, int64(third-3)), store(1, 0), calls(2, 0, 0), load(2, 1), show(2)))
	outer := fn(0, 3, []int{1}, end(2, num(0, 5), calls(2, 1, 0), calls(2, 0, 0), calls(2, 1, 0), slot(1, 0), store(1, 0)))
	c := with(of(inner, middle, outer), []int{third + 1}, 8)
	halts(t, "full", c, 5, 5, 5, 5, 5, 5)
	c.Globals[0]++
	if o := both(t, "one too many", c); o.Trap != api.TrapForm {
		t.Errorf("%+v", o)
	}
}

// P24.2: code of as many instructions as may be: of few registers and of all, in one part, in many, in many functions.
func TestGreatCode(t *testing.T) {
	many := api.MaxInsts - 1
	for _, regs := range []int{1, 3, 6, 7, 12, 100, api.MaxRegs} {
		insts := make([]api.Inst, many)
		for k := range insts {
			switch {
			case k < regs:
				insts[k] = num(k, int64(k))
			case k%1000 == 0:
				insts[k] = show(k * 7 % regs)
			default:
				insts[k] = do(api.Xor, api.U32, k%regs, k*13%regs, k*k%regs)
			}
		}
		both(t, fmt.Sprint("registers ", regs), main(regs, regs-1, insts...))
	}
	parts := make([]api.Part, api.MaxInsts/2)
	for k := range parts {
		parts[k] = branch(k%9, k+1, k+1, do(api.Add, api.U32, k%9, k%9, k%7))
	}
	last := len(parts) - 1
	parts[last] = end(0, show(8))
	both(t, "many parts", of(fn(0, 9, nil, parts...)))
	empty := make([]api.Part, api.MaxInsts)
	for k := range empty {
		empty[k] = jump((k + 7) % len(empty))
	}
	empty[len(empty)-7] = end(0)
	both(t, "many empty parts", of(fn(0, 1, nil, empty...)))
	fns := slices.Repeat([]api.Fn{fn(api.MaxArgs, api.MaxRegs, []int{100, 200}, end(api.MaxRegs-1))}, api.MaxInsts-2)
	halts(t, "many functions", of(append(fns, fn(0, 1, nil, end(0, calls(0, api.MaxInsts-3, 0, 0, 0, 0, 0, 0))))...), 0)
	long := slices.Repeat([]api.Inst{show(0)}, many+1)
	refused(t, "one more", main(1, 0, long...), api.ErrLimit)
	refused(t, "one more, and not right", main(1, 1, long...), api.ErrLimit)
}

// P24.2: an image never has more than 4 MaxInsts words: code that would need more is refused, just from there on.
func TestWordsAtTheirLimit(t *testing.T) {
	callee := fn(api.MaxArgs, api.MaxArgs, nil, end(0))
	asking := func(many int) api.Code {
		return of(callee, fn(0, 1, nil, end(0, slices.Repeat([]api.Inst{calls(0, 0, 0, 0, 0, 0, 0, 0)}, many)...)))
	}
	count := func(many int) int { return len(image(t, asking(many), false).Words) }
	one := count(101) - count(100)
	most := (4*api.MaxInsts - count(0)) / one
	both(t, "as many as there is room for", asking(most))
	refused(t, "as many as there is room for", asking(most), api.OK)
	refused(t, "one more", asking(most+1), api.ErrLimit)
	refused(t, "as many as the code may have", asking(api.MaxInsts-2), api.ErrLimit)
	for _, add := range []int{4*api.MaxInsts - count(most), 4*api.MaxInsts - count(most) + 1} {
		c := asking(most)
		c.Fns[1].Parts[0].Insts = append(c.Fns[1].Parts[0].Insts, slices.Repeat([]api.Inst{show(0)}, add)...)
		if im, e := code.Emit(c, false); e == api.OK && len(im.Words) > 4*api.MaxInsts || e == api.ErrLimit && add == 4*api.MaxInsts-count(most) {
			t.Errorf("%d words, %d", len(im.Words), e)
		} else if e == api.OK {
			both(t, "just full", c)
		}
	}
}

// withLe: the same code, with Le for each Lt.
func withLe(c api.Code) api.Code {
	c = ir.Copy(c)
	for _, f := range c.Fns {
		for _, p := range f.Parts {
			for k := range p.Insts {
				if p.Insts[k].Op == api.Lt {
					p.Insts[k].Op = api.Le
				}
			}
		}
	}
	return c
}

// P24.2: with the fault each Lt, of every type, is done as an Le, wherever it stands; no other operation is done otherwise.
func TestFault(t *testing.T) {
	for op := api.Add; op <= api.Ne; op++ {
		for typ := range byte(6) {
			for _, a := range []int64{1, 5, 100} {
				for _, b := range []int64{1, 5, 100} {
					for _, many := range []int{0, 3, 5, 9, 30} {
						c := crowded(main(3, 2, num(0, a), num(1, b), do(op, typ, 2, 0, 1), show(2)), many)
						o, _ := run.Run(withLe(c), 999)
						if got := done(t, image(t, c, true), o.Steps); !alike(o, got) {
							t.Fatalf("operation %d, type %d, of %d and %d: %+v; want %+v", op, typ, a, b, got, o)
						}
						v, trap := ints.Do(op, typ, a, b)
						if op == api.Lt && a == b {
							v = 1
						}
						if o.Halted != (trap == api.NoTrap) || o.Halted && (o.Exit != v || o.Trace[0] != v) {
							t.Fatalf("operation %d, type %d, of %d and %d: %+v; want %d", op, typ, a, b, o, v)
						}
					}
				}
			}
		}
	}
	loop := of(fn(1, 2, nil, end(1, do(api.Lt, api.I32, 1, 0, 0))), fn(0, 4, nil,
		jump(1, num(1, 1), num(2, 3)),
		branch(3, 2, 3, do(api.Lt, api.I32, 3, 0, 2)),
		jump(1, show(0), do(api.Add, api.I32, 0, 0, 1)),
		end(0, calls(0, 0, 0), show(0))))
	for fault, want := range map[bool][]int64{false: {0, 1, 2, 0}, true: {0, 1, 2, 3, 1}} {
		if o := done(t, image(t, loop, fault), 100); !o.Halted || !slices.Equal(o.Trace, want) {
			t.Errorf("fault %v: %+v", fault, o)
		}
	}
	for _, c := range []api.Code{loop, crowded(loop, 12)} {
		if got, want := image(t, c, true), image(t, withLe(c), false); !reflect.DeepEqual(got, want) {
			t.Errorf("with the fault %+v; want %+v", got, want)
		}
		if got, want := image(t, withLe(c), true), image(t, withLe(c), false); !reflect.DeepEqual(got, want) {
			t.Errorf("with the fault and no Lt %+v; want %+v", got, want)
		}
	}
}

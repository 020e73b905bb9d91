package run

import (
	"fmt"
	"math"
	"slices"
	"testing"

	"burin/api"
	"burin/ints"
	"burin/ir"
)

// The signature and the number that the chapter lists.
var _ func(api.Code, int) (api.Outcome, api.Errno) = Run

const _ uint = Page - 1<<20
const _ uint = 1<<20 - Page

func halted(exit int64, steps int, trace ...int64) api.Outcome {
	return api.Outcome{Halted: true, Exit: exit, Steps: steps, Trace: trace}
}

func trapped(trap api.Trap, steps int, trace ...int64) api.Outcome {
	return api.Outcome{Trap: trap, Steps: steps, Trace: trace}
}

func spent(steps int, trace ...int64) api.Outcome {
	return api.Outcome{Fuel: true, Steps: steps, Trace: trace}
}

func alike(a, b api.Outcome) bool {
	return a.Halted == b.Halted && a.Exit == b.Exit && a.Trap == b.Trap && a.Fuel == b.Fuel && a.Steps == b.Steps && slices.Equal(a.Trace, b.Trace)
}

func ends(t *testing.T, what string, c api.Code, fuel int, want api.Outcome) {
	t.Helper()
	o, e := Run(c, fuel)
	if e != api.OK || !alike(o, want) {
		t.Errorf("%s with a fuel of %d: %+v, %d; want %+v", what, fuel, o, e, want)
	}
}

// each asks how a run ends with steps enough, with the most, and with every number of steps that is too few: it is spent there, behind the beginning of the same trace.
func each(t *testing.T, what string, c api.Code, want api.Outcome) {
	t.Helper()
	ends(t, what, c, api.MaxFuel, want)
	ends(t, what, c, want.Steps, want)
	ends(t, what, c, want.Steps+1, want)
	printed := 0
	for fuel := range want.Steps {
		o, e := Run(c, fuel)
		if e != api.OK || len(o.Trace) < printed || len(o.Trace) > len(want.Trace) {
			t.Fatalf("%s with a fuel of %d: %+v, %d", what, fuel, o, e)
		}
		printed = len(o.Trace)
		if !alike(o, spent(fuel, want.Trace[:printed]...)) {
			t.Errorf("%s with a fuel of %d: %+v, %d", what, fuel, o, e)
		}
	}
}

// Instructions by short names.
func num(dst int, n int64) api.Inst    { return api.Inst{Op: api.IConst, Dst: dst, Imm: n} }
func move(dst, a int) api.Inst         { return api.Inst{Op: api.IMove, Dst: dst, A: a} }
func slot(dst int, n int64) api.Inst   { return api.Inst{Op: api.ISlot, Dst: dst, Imm: n} }
func global(dst int, n int64) api.Inst { return api.Inst{Op: api.IGlobal, Dst: dst, Imm: n} }
func load(dst, a int) api.Inst         { return api.Inst{Op: api.ILoad, Dst: dst, A: a} }
func store(a, b int) api.Inst          { return api.Inst{Op: api.IStore, A: a, B: b} }
func show(a int) api.Inst              { return api.Inst{Op: api.IPrint, A: a} }

func do(op, t byte, dst, a, b int) api.Inst {
	return api.Inst{Op: op, Type: t, Dst: dst, A: a, B: b}
}

func off(dst, a int, n int64) api.Inst { return api.Inst{Op: api.IOff, Dst: dst, A: a, Imm: n} }

func at(dst, a, b int, n int64) api.Inst {
	return api.Inst{Op: api.IIndex, Dst: dst, A: a, B: b, Imm: n}
}

func calls(dst int, fn int64, args ...int) api.Inst {
	return api.Inst{Op: api.ICall, Dst: dst, Imm: fn, Args: args}
}

func end(cond int, insts ...api.Inst) api.Part { return api.Part{Insts: insts, End: true, Cond: cond} }

func jump(next int, insts ...api.Inst) api.Part { return api.Part{Insts: insts, Cond: -1, Next: next} }

func branch(cond, next, other int, insts ...api.Inst) api.Part {
	return api.Part{Insts: insts, Cond: cond, Next: next, Else: other}
}

func fn(params, regs int, slots []int, parts ...api.Part) api.Fn {
	return api.Fn{Params: params, Regs: regs, Slots: slots, Parts: parts}
}

func code(fns ...api.Fn) api.Code { return api.Code{Fns: fns} }

// main is code of one function with one part.
func main(regs, cond int, insts ...api.Inst) api.Code {
	return code(fn(0, regs, nil, end(cond, insts...)))
}

func with(c api.Code, globals []int, inits ...int64) api.Code {
	c.Globals, c.Inits = globals, inits
	return c
}

// The chapter's example.
func TestExample(t *testing.T) {
	c := main(2, 0, num(0, 5), show(0))
	ends(t, "example", c, 100, halted(5, 3, 5))
	ends(t, "example", c, 3, halted(5, 3, 5))
	ends(t, "example", c, 2, spent(2, 5))
	ends(t, "example", c, 1, spent(1))
	ends(t, "example", c, 0, spent(0))
	each(t, "example", c, halted(5, 3, 5))
}

// P14.1: fuel just within and just beyond its bounds; which error is told first.
func TestErrors(t *testing.T) {
	good := main(1, 0)
	wrong := main(1, 1)
	long := main(1, 0, make([]api.Inst, api.MaxInsts)...)
	for _, r := range []struct {
		fuel                 int
		right, wrong, beyond api.Errno
	}{
		{0, api.OK, api.ErrForm, api.ErrLimit},
		{1, api.OK, api.ErrForm, api.ErrLimit},
		{api.MaxFuel - 1, api.OK, api.ErrForm, api.ErrLimit},
		{api.MaxFuel, api.OK, api.ErrForm, api.ErrLimit},
		{api.MaxFuel + 1, api.ErrArg, api.ErrArg, api.ErrArg},
		{-1, api.ErrArg, api.ErrArg, api.ErrArg},
		{math.MinInt, api.ErrArg, api.ErrArg, api.ErrArg},
		{math.MaxInt, api.ErrArg, api.ErrArg, api.ErrArg},
	} {
		for _, x := range []struct {
			c    api.Code
			want api.Errno
		}{{good, r.right}, {wrong, r.wrong}, {long, r.beyond}, {api.Code{}, r.wrong}} {
			o, e := Run(x.c, r.fuel)
			if e != x.want || e != api.OK && !alike(o, api.Outcome{}) {
				t.Errorf("fuel %d: %+v, %d; want %d", r.fuel, o, e, x.want)
			}
		}
	}
}

// numbers at which each operation is asked: about the edges of each type, and beyond all of them.
var numbers = []int64{0, 1, 2, 7, 8, 31, 32, 127, 128, 255, 256, 32767, 32768, 65535, 65536, math.MaxInt32, math.MaxInt32 + 1, math.MaxUint32, math.MaxUint32 + 1,
	-1, -2, -128, -129, -32768, -32769, math.MinInt32, math.MinInt32 - 1, math.MinInt64, math.MaxInt64}

// P14.1: each operation, of each type, as layer 1 reckons it, with its traps.
func TestOperations(t *testing.T) {
	for op := api.Add; op <= api.Ne; op++ {
		for typ := range byte(6) {
			for _, a := range numbers {
				for _, b := range numbers {
					v, trap := ints.Do(op, typ, a, b)
					want := halted(v, 4)
					if trap != api.NoTrap {
						want = trapped(trap, 3)
					}
					ends(t, fmt.Sprint("operation ", op, typ, a, b), main(3, 2, num(0, a), num(1, b), do(op, typ, 2, 0, 1)), 9, want)
				}
			}
		}
	}
}

// P14.1: INeg, INot, IBang, ICast, of each type; IConst and IMove of numbers of no type.
func TestOneNumber(t *testing.T) {
	for _, a := range numbers {
		ends(t, "move", main(2, 1, num(0, a), move(1, 0)), 9, halted(a, 3))
		ends(t, "print", main(2, 1, num(0, a), show(0)), 9, halted(0, 3, a))
		for typ := range byte(6) {
			ends(t, "cast", main(2, 1, num(0, a), do(api.ICast, typ, 1, 0, 0)), 9, halted(ints.Wrap(typ, a), 3))
			for op, un := range map[byte]byte{api.INeg: api.Neg, api.INot: api.Not, api.IBang: api.Bang} {
				v, trap := ints.Un(un, typ, a)
				want := halted(v, 3)
				if trap != api.NoTrap {
					want = trapped(trap, 2)
				}
				ends(t, fmt.Sprint("operation ", op, typ, a), main(2, 1, num(0, a), do(op, typ, 1, 0, 0)), 9, want)
			}
		}
	}
	ends(t, "INeg", main(1, 0, num(0, 5), do(api.INeg, api.I8, 0, 0, 0)), 9, halted(-5, 3))
	ends(t, "INot", main(1, 0, num(0, 5), do(api.INot, api.I8, 0, 0, 0)), 9, halted(-6, 3))
	ends(t, "IBang", main(1, 0, num(0, 5), do(api.IBang, api.I8, 0, 0, 0)), 9, halted(0, 3))
	ends(t, "ICast", main(1, 0, num(0, 300), do(api.ICast, api.U8, 0, 0, 0)), 9, halted(44, 3))
}

// P14.1: what the table doesn't name for an Op isn't looked at: it may be no register, and no number of anything.
func TestFieldsThatAreNotLookedAt(t *testing.T) {
	const none = math.MinInt
	each(t, "fields", with(code(
		fn(0, 1, nil, end(0)),
		fn(0, 3, []int{1}, api.Part{End: true, Cond: 1, Next: none, Else: math.MaxInt, Insts: []api.Inst{
			{Op: api.IConst, Dst: 0, A: none, B: math.MaxInt, Imm: 7, Args: []int{none}},
			{Op: api.IMove, Dst: 1, B: none, Imm: -1, Args: []int{none}},
			{Op: api.INeg, Dst: 1, B: none, Imm: -1, Args: []int{none}},
			{Op: api.INot, Dst: 1, B: none, Imm: -1},
			{Op: api.IBang, Dst: 1, B: none, Imm: -1},
			{Op: api.ICast, Dst: 1, B: none, Imm: -1},
			{Op: api.ISlot, Dst: 2, A: none, B: math.MaxInt},
			{Op: api.IGlobal, Dst: 1, A: none, B: math.MaxInt},
			{Op: api.IOff, Dst: 1, A: 1, B: none, Imm: 1},
			{Op: api.IStore, Dst: none, A: 1, B: 0, Imm: -1, Args: []int{none}},
			{Op: api.ILoad, Dst: 1, A: 1, B: none, Imm: -1},
			{Op: api.IPrint, Dst: none, A: 1, B: none, Imm: -1},
			{Op: api.ICall, Dst: 2, A: none, B: none},
			{Op: api.IIndex, Dst: 2, A: 0, B: 2, Imm: 1, Args: []int{none}},
			{Op: api.Add, Dst: 1, A: 0, B: 2, Imm: none, Args: []int{none}},
		}}),
	), []int{2}, 3), halted(14, 17, 7))
}

// P14.1: the place that IIndex answers, just within and just beyond; the sums of IIndex and IOff, which are of no type.
func TestPlaces(t *testing.T) {
	for _, length := range []int64{1, 2, 5, api.MaxCells} {
		for _, place := range []int64{math.MinInt64, -length, -2, -1, 0, 1, length - 1, length, length + 1, 2 * length, math.MaxInt64} {
			for _, first := range []int64{0, 3 * Page, -9, math.MaxInt64 - 3} {
				want := halted(first+place, 4)
				if place < 0 || place >= length {
					want = trapped(api.TrapIndex, 3)
				}
				ends(t, fmt.Sprint("place ", place, " of ", length), main(3, 2, num(0, first), num(1, place), at(2, 0, 1, length)), 9, want)
			}
		}
	}
	for _, n := range []int64{0, 1, 2, api.MaxCells - 1} {
		for _, first := range numbers {
			ends(t, fmt.Sprint(first, " and ", n), main(2, 1, num(0, first), off(1, 0, n)), 9, halted(first+n, 3))
		}
	}
}

// P14.1: the addresses of globals and slots, and their first numbers.
func TestAddresses(t *testing.T) {
	c := with(code(
		fn(0, 9, []int{7, 1}, end(8, slot(0, 0), slot(1, 1), show(0), show(1))),
		fn(0, 9, []int{4, 2, 3}, end(8,
			global(0, 0), global(1, 1), slot(2, 0), slot(3, 1), slot(4, 2),
			show(0), show(1), show(2), show(3), show(4), calls(5, 0),
			load(6, 0), show(6), load(6, 1), show(6), load(6, 2), show(6),
			off(7, 1, 1), load(6, 7), show(6),
		)),
	), []int{1, 5}, -7, math.MaxInt64)
	each(t, "addresses", c, halted(0, 21+5, 0, Page, 2*Page, 3*Page, 4*Page, 5*Page, 6*Page, -7, math.MaxInt64, 0, 0))
}

// P14.1: cells just within and just beyond a block, and addresses that are none.
func TestCells(t *testing.T) {
	c := code(fn(0, 3, []int{3, 1}, end(2)))
	c.Globals, c.Inits = []int{2, api.MaxCells - 6}, []int64{11, 0}
	blocks := []int64{2, api.MaxCells - 6, 3, 1}
	for block := int64(-2); block < 7; block++ {
		for _, cell := range []int64{-1, 0, 1, 2, 3, api.MaxCells - 7, api.MaxCells - 6, api.MaxCells - 1, api.MaxCells, Page - 1} {
			address := block*Page + cell
			addresses(t, c, address, holds(blocks, address))
		}
	}
	for _, address := range []int64{-1, -Page, math.MinInt64, math.MinInt64 + Page, math.MaxInt64, 1 << 40, 1 << 52, 1 << 62, -1 << 62} {
		addresses(t, c, address, false)
	}
}

func holds(blocks []int64, address int64) bool {
	return address >= 0 && address/Page < int64(len(blocks)) && address%Page < blocks[address/Page]
}

// addresses asks a load and a store at an address, and whether a load behind the store finds its number there.
func addresses(t *testing.T, c api.Code, address int64, there bool) {
	t.Helper()
	c = ir.Copy(c)
	p := &c.Fns[0].Parts[0]
	loads, stores := trapped(api.TrapForm, 2), trapped(api.TrapForm, 3)
	if there {
		loads, stores = halted(0, 3), halted(-5, 5)
		if address == 0 {
			loads.Exit = 11
		}
	}
	p.Insts = []api.Inst{num(0, address), load(2, 0)}
	ends(t, fmt.Sprint("load ", address), c, 9, loads)
	p.Insts = []api.Inst{num(0, address), num(1, -5), store(0, 1), load(2, 0)}
	ends(t, fmt.Sprint("store ", address), c, 9, stores)
}

// P14.1: a cell that is written is that one alone; stores of 0.
func TestStores(t *testing.T) {
	each(t, "stores", with(code(fn(0, 6, []int{2}, end(5,
		global(0, 0), off(1, 0, 1), slot(2, 0), off(3, 2, 1),
		num(4, 21), store(1, 4), num(4, 22), store(2, 4),
		load(4, 0), show(4), load(4, 1), show(4), load(4, 2), show(4), load(4, 3), show(4),
		store(0, 5), store(1, 5), load(4, 0), show(4), load(4, 1), show(4), load(4, 2), show(4),
	))), []int{2}, 9), halted(0, 25, 9, 21, 22, 0, 0, 0, 22))
}

// P14.1: a trap ends all, in a call too: nothing behind it is done, and its register isn't to be seen.
func TestTrapsInCalls(t *testing.T) {
	deep := code(
		fn(1, 3, nil, end(0, show(0), do(api.Div, api.I32, 2, 0, 1), show(2))),
		fn(1, 3, []int{3}, end(0, show(0), calls(1, 0, 0), show(1))),
		fn(0, 3, nil, end(0, num(0, 4), calls(1, 1, 0), show(1))),
	)
	each(t, "a trap in calls", deep, trapped(api.TrapZero, 6, 4, 4))
	each(t, "each trap behind a print", main(3, 0, show(0), num(1, 40), do(api.Shl, api.I8, 2, 1, 1), show(0)), trapped(api.TrapShift, 3, 0))
	each(t, "a load", main(3, 0, show(0), num(1, -1), load(2, 1), show(0)), trapped(api.TrapForm, 3, 0))
	each(t, "a store", main(3, 0, show(0), num(1, -1), store(1, 1), show(0)), trapped(api.TrapForm, 3, 0))
	each(t, "a place", main(3, 0, show(0), num(1, 1), at(2, 0, 1, 1), show(0)), trapped(api.TrapIndex, 3, 0))
	each(t, "a sum", main(3, 0, show(0), num(1, 127), do(api.Add, api.I8, 2, 1, 1), show(0)), trapped(api.TrapOver, 3, 0))
}

// P14.1: no room for slots: of the first call, ahead of any step; of a call in it, behind its step.
func TestNoRoom(t *testing.T) {
	room := func(globals, slots, others int) api.Code {
		c := code(fn(0, 1, []int{others}, end(0, show(0))), fn(0, 2, []int{slots}, end(0, show(0), calls(1, 0), show(0))))
		return with(c, []int{globals}, 0)
	}
	const quarter = api.MaxCells / 4
	each(t, "room", room(quarter, quarter, 2*quarter), halted(0, 6, 0, 0, 0))
	each(t, "one cell too few", room(quarter, quarter, 2*quarter+1), trapped(api.TrapForm, 2, 0))
	each(t, "MaxCells", room(1, 1, api.MaxCells), trapped(api.TrapForm, 2, 0))
	each(t, "none for the first", room(1, api.MaxCells, 1), trapped(api.TrapForm, 0))
	each(t, "none for the first at all", room(api.MaxCells, api.MaxCells, 1), trapped(api.TrapForm, 0))
	ends(t, "with no steps", room(1, api.MaxCells, 1), 0, trapped(api.TrapForm, 0))
	each(t, "all of it", with(code(fn(0, 1, nil, end(0))), []int{api.MaxCells}, 0), halted(0, 1))
	each(t, "for the first of two", with(code(fn(0, 1, []int{1, 1}, end(0))), []int{api.MaxCells - 1}, 0), trapped(api.TrapForm, 0))
	each(t, "for both", with(code(fn(0, 1, []int{1, 1}, end(0))), []int{api.MaxCells - 2}, 0), halted(0, 1))
	each(t, "without slots", with(code(fn(0, 1, nil, end(0, show(0))), fn(0, 1, nil, end(0, calls(0, 0)))), []int{api.MaxCells}, 5), halted(0, 4, 0))
}

// P14.1: blocks are gone behind the call, and are new at the next one: their cells are 0.
func TestBlocksAreGone(t *testing.T) {
	fill := fn(1, 4, []int{2}, end(1, slot(1, 0), load(2, 1), show(2), off(3, 1, 1), load(2, 3), show(2), store(1, 0), store(3, 0)))
	c := code(fill, fn(0, 3, nil, end(2, num(0, 8), calls(1, 0, 0), show(1), calls(1, 0, 0), show(1), load(2, 1))))
	each(t, "the block of a call", c, trapped(api.TrapForm, 6+2*9, 0, 0, 0, 0, 0, 0))
	nest := code(fill, fn(1, 4, []int{1}, end(1, slot(1, 0), store(1, 0), calls(2, 0, 0), show(2), load(3, 1), show(3))),
		fn(0, 3, []int{1}, end(2, num(0, 8), calls(1, 1, 0), show(1), calls(1, 1, 0), show(1))))
	inner := []int64{0, 0, 2 * Page, 8, Page}
	each(t, "blocks of calls in a call", nest, halted(0, 1+2*(2+6+1+9)+1, append(slices.Clone(inner), inner...)...))
	great := code(fn(0, 1, []int{api.MaxCells}, end(0)), fn(0, 2, nil, end(1, calls(0, 0), calls(0, 0), calls(0, 0), show(0))))
	each(t, "great blocks", great, halted(0, 8, 0))
}

// P14.1: a caller's cells are written by what it calls, by their address.
func TestAddressesAsArguments(t *testing.T) {
	c := code(
		fn(2, 3, []int{1}, end(2, load(2, 0), store(0, 1))),
		fn(0, 4, []int{2, 1}, end(3, slot(0, 0), off(0, 0, 1), num(1, 6), calls(2, 0, 0, 1), show(2), num(1, 7), calls(2, 0, 0, 1), show(2), load(3, 0))),
	)
	each(t, "addresses as arguments", c, halted(7, 10+2*3, 0, 6))
}

// P14.1: registers are 0 at each call but for the arguments; the caller keeps its own.
func TestRegisters(t *testing.T) {
	dirty := fn(2, 6, nil, end(5, show(0), show(1), show(2), show(3), show(4), show(5),
		num(0, 11), num(1, 12), num(2, 13), num(3, 14), num(4, 0), num(4, 15), num(4, 0), num(4, 16), num(5, 17)))
	c := code(dirty, fn(0, 6, nil, end(5,
		num(0, 1), num(1, 2), num(2, 3), calls(3, 0, 0, 1), show(3), calls(3, 0, 4, 4), show(3), calls(3, 0, 2, 2), calls(2, 0, 3, 5),
		show(0), show(1), show(2), show(3), show(4), show(5))))
	each(t, "registers", c, halted(0, 16+4*16,
		1, 2, 0, 0, 0, 0, 17, 0, 0, 0, 0, 0, 0, 17, 3, 3, 0, 0, 0, 0, 17, 0, 0, 0, 0, 0, 1, 2, 17, 17, 0, 0))
}

// P14.1: arguments are taken in order, the same register more than once, and ahead of the answer's register being written.
func TestArguments(t *testing.T) {
	c := code(
		fn(3, 4, nil, end(3, show(0), show(1), show(2), do(api.Sub, api.I32, 3, 0, 1), num(0, 99))),
		fn(0, 3, nil, end(0, num(0, 50), num(1, 8), calls(0, 0, 0, 1, 1), show(0), calls(1, 0, 1, 0, 2), show(1), calls(0, 0, 0, 0, 0))),
	)
	each(t, "arguments", c, halted(0, 8+3*6, 50, 8, 8, 42, 8, 42, 0, -34, 42, 42, 42))
	wide := fn(api.MaxRegs, api.MaxRegs, nil, end(api.MaxRegs-1, show(0), show(api.MaxRegs-2)))
	args := make([]int, api.MaxRegs)
	args[0], args[api.MaxRegs-2], args[api.MaxRegs-1] = 1, 2, 3
	each(t, "MaxRegs arguments", code(wide, fn(0, 4, nil, end(0, num(1, 5), num(2, 6), num(3, 7), calls(0, 0, args...)))), halted(7, 8, 5, 6))
}

// P14.1: a branch each way, by numbers of all kinds; a jump, and ends among the parts.
func TestBranches(t *testing.T) {
	for _, n := range numbers {
		c := code(fn(0, 2, nil, branch(0, 2, 1, num(0, n)), end(1, num(1, 70)), end(1, num(1, 71))))
		want := int64(71)
		if n == 0 {
			want = 70
		}
		ends(t, fmt.Sprint("a branch by ", n), c, 9, halted(want, 4))
	}
	for _, cond := range []int{-1, -2, math.MinInt} {
		c := code(fn(0, 2, nil, api.Part{Cond: cond, Next: 2, Else: 1}, end(1, num(1, 70)), end(1, num(1, 71))))
		each(t, "a jump", c, halted(71, 3))
	}
	each(t, "an end in the first part", code(fn(0, 1, nil, end(0), jump(0))), halted(0, 1))
	each(t, "through all parts", code(fn(0, 1, nil, jump(3, show(0)), end(0, num(0, 4)), jump(1, num(0, 3), show(0)), jump(2, num(0, 2), show(0)))), halted(4, 10, 0, 2, 3))
	each(t, "a branch to itself", code(fn(0, 3, nil, jump(1, num(0, 3), num(1, 1)), branch(0, 1, 2, show(0), do(api.Sub, api.I32, 0, 0, 1)), end(2))), halted(0, 3+9+1, 3, 2, 1))
	each(t, "the last part's Cond is the answer", code(fn(0, 3, nil, branch(2, 1, 2, num(1, 5)), end(0), end(1))), halted(5, 3))
}

// P14.1: loops that never end are spent, whatever the steps; the most steps are not too many.
func TestSpent(t *testing.T) {
	empty := code(fn(0, 0, nil, jump(0)))
	for _, fuel := range []int{0, 1, 2, 1000, api.MaxFuel} {
		ends(t, "an empty loop", empty, fuel, spent(fuel))
	}
	c := code(fn(0, 1, nil, end(0)), fn(0, 1, nil, jump(0, calls(0, 0))))
	ends(t, "a loop of calls", c, api.MaxFuel, spent(api.MaxFuel))
	prints := code(fn(0, 1, nil, jump(0, show(0))))
	for fuel := range 50 {
		ends(t, "a loop that prints", prints, fuel, spent(fuel, make([]int64, (fuel+1)/2)...))
	}
	o, e := Run(prints, api.MaxFuel)
	if e != api.OK || !o.Fuel || len(o.Trace) != api.MaxFuel/2 {
		t.Errorf("%d, %v, %d printed", e, o.Fuel, len(o.Trace))
	}
}

// P14.1: steps that just reach, one that is spent ahead of an end, ahead of an instruction that traps, and in a call.
func TestLastStep(t *testing.T) {
	c := code(fn(0, 1, nil, end(0, show(0))), fn(0, 2, nil, jump(1, show(0), calls(1, 0)), end(1, do(api.Div, api.I8, 0, 0, 0))))
	each(t, "steps", c, trapped(api.TrapZero, 6, 0, 0))
	ends(t, "ahead of the trap", c, 5, spent(5, 0, 0))
	ends(t, "ahead of the jump", c, 4, spent(4, 0, 0))
	ends(t, "ahead of the call's end", c, 3, spent(3, 0, 0))
	ends(t, "in the call", c, 2, spent(2, 0))
	ends(t, "ahead of the call", c, 1, spent(1, 0))
}

// P1: as many calls in one another as code can have, each with MaxRegs registers.
func TestDeepCalls(t *testing.T) {
	c := code(fn(1, api.MaxRegs, nil, end(0)))
	for n := range int64(api.MaxInsts/2 - 2) {
		c.Fns = append(c.Fns, fn(1, api.MaxRegs, nil, end(1, calls(1, n, 0))))
	}
	c.Fns = append(c.Fns, fn(0, api.MaxRegs, nil, end(0, calls(0, api.MaxInsts/2-2, 0))))
	ends(t, "deep calls", c, api.MaxFuel, halted(0, 2*(api.MaxInsts/2-1)+1))
	c.Fns[len(c.Fns)-1].Parts[0].Insts = []api.Inst{num(0, 6), calls(0, api.MaxInsts/2-2, 0)}
	ends(t, "deep calls", c, api.MaxFuel, halted(6, 2*(api.MaxInsts/2-1)+2))
}

// P1: calls of functions with MaxRegs registers, or MaxCells cells, of which the last is used, are not slow.
func TestGreatCalls(t *testing.T) {
	const last = api.MaxRegs - 1
	c := code(fn(0, api.MaxRegs, nil, end(last, num(last, 1))), fn(0, 1, nil, jump(0, calls(0, 0))))
	ends(t, "the last register", c, api.MaxFuel, spent(api.MaxFuel))
	c = code(fn(0, 2, []int{api.MaxCells}, end(1, slot(0, 0), off(0, 0, api.MaxCells-1), store(0, 0))), fn(0, 1, nil, jump(0, calls(0, 0))))
	ends(t, "the last cell", c, api.MaxFuel, spent(api.MaxFuel))
}

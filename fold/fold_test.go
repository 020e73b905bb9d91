package fold

import (
	"fmt"
	"math"
	"reflect"
	"testing"

	"burin/api"
	"burin/ints"
	"burin/ir"
	"burin/run"
)

// The signature that the chapter lists.
var _ func(api.Code, bool) (api.Code, api.Errno) = Run

// Instructions by short names.
func num(dst int, n int64) api.Inst { return api.Inst{Op: api.IConst, Dst: dst, Imm: n} }
func move(dst, a int) api.Inst      { return api.Inst{Op: api.IMove, Dst: dst, A: a} }
func show(a int) api.Inst           { return api.Inst{Op: api.IPrint, A: a} }

func do(op, t byte, dst, a, b int) api.Inst {
	return api.Inst{Op: op, Type: t, Dst: dst, A: a, B: b}
}

// of: code of one part, with a function ahead of it that can be called with two numbers, a global and two slots.
func of(insts ...api.Inst) api.Code {
	called := api.Fn{Params: 2, Regs: 2, Parts: []api.Part{{End: true, Cond: 1}}}
	last := api.Fn{Regs: 8, Slots: []int{3, 1}, Parts: []api.Part{{Insts: insts, End: true, Cond: 2}}}
	return api.Code{Globals: []int{2}, Inits: []int64{4}, Fns: []api.Fn{called, last}}
}

// becomes asks what the instructions of a part become, without the fault and with it.
func becomes(t *testing.T, what string, insts, want, faulty []api.Inst) {
	t.Helper()
	c := of(insts...)
	for fault, want := range map[bool][]api.Inst{false: want, true: faulty} {
		d, e := Run(c, fault)
		if e != api.OK || !reflect.DeepEqual(d, of(want...)) {
			t.Errorf("%s, fault %v: %v, %d; want %v", what, fault, d.Fns, e, want)
		}
	}
}

// both: what becomes of it, whether with the fault or without.
func both(t *testing.T, what string, insts, want []api.Inst) {
	t.Helper()
	becomes(t, what, insts, want, want)
}

func stays(t *testing.T, what string, insts ...api.Inst) {
	t.Helper()
	both(t, what, insts, insts)
}

type list = []api.Inst

// The chapter's example.
func TestExample(t *testing.T) {
	becomes(t, "2 + 3",
		list{num(0, 2), num(1, 3), do(api.Add, api.I32, 2, 0, 1), show(2)},
		list{num(0, 2), num(1, 3), num(2, 5), show(2)},
		list{num(0, 2), num(1, 3), num(2, 6), show(2)})
}

// numbers of a type, about its edges, and such that are none of it.
func numbers(typ byte) []int64 {
	s := ints.Span(typ)
	return []int64{0, 1, 2, 7, 8, -1, -3, s.Low, s.Low + 1, s.Low - 1, s.High, s.High - 1, s.High + 1, 2*s.High + 5, 31, 32, 200, 1 << 40, -1<<40 + 3, math.MinInt64, math.MaxInt64}
}

// asked: an instruction behind those that its registers' numbers are known from; the third one's answer, by a run, is told behind it.
func asked(t *testing.T, i api.Inst, a, b int64) {
	t.Helper()
	insts := list{num(0, a), num(1, b), i}
	o, e := run.Run(of(insts...), 9)
	if e != api.OK {
		t.Fatal(e)
	}
	what := fmt.Sprintf("Op %d, Type %d of %d, %d", i.Op, i.Type, a, b)
	if !o.Halted {
		stays(t, what, insts...)
		return
	}
	faulty := o.Exit
	if i.Op == api.Add {
		faulty = ints.Wrap(i.Type, faulty+1)
	}
	becomes(t, what, insts, list{insts[0], insts[1], num(2, o.Exit)}, list{insts[0], insts[1], num(2, faulty)})
}

// P16.1, P16.2: every operation of two numbers, of every type; what traps is left.
func TestOfTwo(t *testing.T) {
	for op := api.Add; op <= api.Ne; op++ {
		for typ := api.I8; typ <= api.U32; typ++ {
			for _, a := range numbers(typ) {
				for _, b := range numbers(typ) {
					asked(t, do(op, typ, 2, 0, 1), a, b)
				}
			}
		}
	}
}

// P16.1: every operation of one number, casts and moves, of every type; none but a Neg traps.
func TestOfOne(t *testing.T) {
	for _, op := range []byte{api.INeg, api.INot, api.IBang, api.ICast, api.IMove} {
		for typ := api.I8; typ <= api.U32; typ++ {
			for _, a := range numbers(typ) {
				asked(t, api.Inst{Op: op, Type: typ, Dst: 2}, a, 1)
			}
		}
	}
}

// P16.1: numbers that are reckoned by hand.
func TestByHand(t *testing.T) {
	for _, r := range []struct {
		i    api.Inst
		a, b int64
		want int64
	}{
		{do(api.Add, api.U8, 2, 0, 1), 255, 1, 0},
		{do(api.Add, api.I8, 2, 0, 1), 511, 1, 0},
		{do(api.Sub, api.U16, 2, 0, 1), 0, 1, 65535},
		{do(api.Mul, api.U32, 2, 0, 1), 1 << 31, 3, 1 << 31},
		{do(api.Div, api.I32, 2, 0, 1), -7, 2, -3},
		{do(api.Rem, api.I8, 2, 0, 1), -7, 2, -1},
		{do(api.And, api.I8, 2, 0, 1), -1, 12, 12},
		{do(api.Or, api.U8, 2, 0, 1), 256, 12, 12},
		{do(api.Xor, api.I16, 2, 0, 1), -1, 5, -6},
		{do(api.Shl, api.U8, 2, 0, 1), 129, 1, 2},
		{do(api.Shr, api.I8, 2, 0, 1), -3, 1, -2},
		{do(api.Lt, api.U8, 2, 0, 1), 256, 1, 1},
		{do(api.Eq, api.I8, 2, 0, 1), 255, -1, 1},
		{do(api.INeg, api.U8, 2, 0, 0), 1, 0, 255},
		{do(api.INot, api.U8, 2, 0, 0), 0, 0, 255},
		{do(api.IBang, api.I8, 2, 0, 0), 256, 0, 1},
		{do(api.ICast, api.I8, 2, 0, 0), 200, 0, -56},
		{do(api.IMove, api.I8, 2, 0, 0), 1 << 50, 0, 1 << 50},
	} {
		faulty := r.want
		if r.i.Op == api.Add {
			faulty++
		}
		becomes(t, fmt.Sprint(r.i, " of ", r.a, ", ", r.b), list{num(0, r.a), num(1, r.b), r.i}, list{num(0, r.a), num(1, r.b), num(2, r.want)}, list{num(0, r.a), num(1, r.b), num(2, faulty)})
	}
	for _, r := range []struct {
		i    api.Inst
		a, b int64
	}{
		{do(api.Add, api.I8, 2, 0, 1), 127, 1},
		{do(api.Sub, api.I16, 2, 0, 1), -32768, 1},
		{do(api.Mul, api.I32, 2, 0, 1), 65536, 32768},
		{do(api.Div, api.U8, 2, 0, 1), 1, 256},
		{do(api.Div, api.I32, 2, 0, 1), -1 << 31, -1},
		{do(api.Rem, api.I32, 2, 0, 1), -1 << 31, -1},
		{do(api.Shl, api.U8, 2, 0, 1), 1, 8},
		{do(api.Shl, api.U8, 2, 0, 1), 1, 256},
		{do(api.Shr, api.U8, 2, 0, 1), 1, -1},
		{do(api.Shl, api.I8, 2, 0, 1), 64, 1},
		{do(api.INeg, api.I8, 2, 0, 0), -128, 0},
	} {
		stays(t, fmt.Sprint(r.i, " of ", r.a, ", ", r.b), num(0, r.a), num(1, r.b), r.i)
	}
}

// P16.1: what was reckoned ahead is known itself; what was left because it traps isn't.
func TestOneBehindTheOther(t *testing.T) {
	u8 := func(op byte, dst, a, b int) api.Inst { return do(op, api.U8, dst, a, b) }
	both(t, "moves of moves", list{num(3, 300), move(4, 3), move(5, 4), api.Inst{Op: api.ICast, Type: api.U8, Dst: 4, A: 5}, move(5, 4)},
		list{num(3, 300), num(4, 300), num(5, 300), num(4, 44), num(5, 44)})
	both(t, "a row", list{num(0, 9), u8(api.Mul, 1, 0, 0), u8(api.Sub, 2, 1, 0), u8(api.INeg, 3, 2, 0), u8(api.IBang, 4, 3, 0), u8(api.Or, 5, 4, 1)},
		list{num(0, 9), num(1, 81), num(2, 72), num(3, 184), num(4, 0), num(5, 81)})
	becomes(t, "sums of sums", list{num(0, 2), u8(api.Add, 1, 0, 0), u8(api.Add, 1, 1, 0), u8(api.Add, 1, 1, 1)},
		list{num(0, 2), num(1, 4), num(1, 6), num(1, 12)}, list{num(0, 2), num(1, 5), num(1, 8), num(1, 17)})
	stays(t, "behind a trap", num(0, 1), num(1, 0), u8(api.Div, 2, 0, 1), u8(api.Add, 3, 2, 0), move(4, 2))
	stays(t, "a trap writes over a known one", num(0, 1), num(1, 0), u8(api.Rem, 0, 0, 1), u8(api.Mul, 3, 0, 1), move(4, 0))
}

// P16.1: a register that is written again is known by the last one that wrote it.
func TestWrittenAgain(t *testing.T) {
	sum := do(api.Sub, api.I32, 2, 0, 1)
	both(t, "by an IConst", list{num(0, 2), num(1, 3), num(0, 9), sum, num(1, 4), sum}, list{num(0, 2), num(1, 3), num(0, 9), num(2, 6), num(1, 4), num(2, 5)})
	both(t, "by one that reads it", list{num(0, 2), do(api.Mul, api.I32, 0, 0, 0), do(api.Mul, api.I32, 0, 0, 0), move(0, 0), api.Inst{Op: api.INeg, Type: api.I8, Dst: 0}},
		list{num(0, 2), num(0, 4), num(0, 16), num(0, 16), num(0, -16)})
	for _, i := range []api.Inst{
		move(0, 5),
		do(api.INot, api.I8, 0, 5, 0),
		do(api.Add, api.I8, 0, 0, 5),
		do(api.Add, api.I8, 0, 5, 0),
		{Op: api.ISlot, Dst: 0, Imm: 1},
		{Op: api.IGlobal, Dst: 0},
		{Op: api.IIndex, Dst: 0, A: 1, B: 1, Imm: 9},
		{Op: api.IOff, Dst: 0, A: 1, Imm: 2},
		{Op: api.ILoad, Dst: 0, A: 1},
		{Op: api.ILoad, Dst: 0, A: 0},
		{Op: api.ICall, Dst: 0, Args: []int{0, 1}},
	} {
		stays(t, fmt.Sprint("by ", i), num(0, 2), num(1, 3), i, sum, move(4, 0))
		both(t, fmt.Sprint("by ", i, " and once more"), list{num(0, 2), num(1, 3), i, num(0, 7), sum}, list{num(0, 2), num(1, 3), i, num(0, 7), num(2, 4)})
	}
	// These write none, whatever stands as their Dst.
	for _, i := range []api.Inst{{Op: api.IPrint, Dst: 0, A: 1}, {Op: api.IStore, Dst: 0, A: 1, B: 1}} {
		both(t, fmt.Sprint("by ", i), list{num(0, 2), num(1, 3), i, sum}, list{num(0, 2), num(1, 3), i, num(2, -1)})
	}
}

// P16.1: what isn't known, in whole or in part, stays; so do those that are none of the instructions that the chapter names, though all is known.
func TestStays(t *testing.T) {
	for op := api.Add; op <= api.Ne; op++ {
		stays(t, "none known", do(op, api.I8, 2, 0, 1))
		stays(t, "the first known", num(0, 5), do(op, api.I8, 2, 0, 1))
		stays(t, "the second known", num(1, 5), do(op, api.I8, 2, 0, 1))
		stays(t, "known too late", do(op, api.I8, 2, 0, 1), num(0, 5), num(1, 5))
	}
	for op := api.IMove; op <= api.ICast; op++ {
		stays(t, "not known", num(0, 5), do(op, api.I8, 2, 1, 0))
	}
	stays(t, "a sum with itself", do(api.Add, api.I8, 2, 2, 2))
	for _, i := range []api.Inst{
		num(3, 4),
		{Op: api.ISlot, Dst: 2, Imm: 1},
		{Op: api.IGlobal, Dst: 2},
		{Op: api.IIndex, Dst: 2, A: 0, B: 1, Imm: 9},
		{Op: api.IIndex, Dst: 2, A: 0, B: 1, Imm: 1},
		{Op: api.IOff, Dst: 2, A: 0, Imm: 2},
		{Op: api.ILoad, Dst: 2, A: 0},
		{Op: api.IStore, A: 0, B: 1},
		{Op: api.ICall, Dst: 2, Args: []int{0, 1}},
		show(0),
	} {
		stays(t, fmt.Sprint(i), num(0, 1), num(1, 3), i, do(api.Sub, api.I8, 4, 2, 0))
	}
}

// P16.1: what an instruction doesn't look at neither makes it known nor is it changed.
func TestUnseenFields(t *testing.T) {
	stays(t, "IConst", num(0, 1), api.Inst{Op: api.IConst, Type: api.U16, Dst: 1, A: 0, B: -5, Imm: 9, Args: []int{0, 77}})
	stays(t, "a load", num(0, 1), api.Inst{Op: api.ILoad, Type: api.U16, Dst: 1, A: 0, B: 0, Imm: 9, Args: []int{0, 77}})
	both(t, "INot", list{num(0, 1), {Op: api.INot, Type: api.U8, Dst: 1, A: 0, B: 1 << 40, Imm: 99, Args: []int{-1}}}, list{num(0, 1), num(1, 254)})
	both(t, "Sub", list{num(0, 1), {Op: api.Sub, Type: api.U8, Dst: 1, Imm: 99, Args: []int{-1}}}, list{num(0, 1), num(1, 0)})
}

// P16.2: with the fault sums that are known are one too great, and wrapped; nothing else is.
func TestFault(t *testing.T) {
	for typ := api.I8; typ <= api.U32; typ++ {
		s := ints.Span(typ)
		before := list{num(0, s.High), num(1, 0)}
		becomes(t, "the greatest", append(before, do(api.Add, typ, 2, 0, 1), show(2)), append(before, num(2, s.High), show(2)), list{num(0, s.High), num(1, 0), num(2, s.Low), show(2)})
		becomes(t, "the least", list{num(0, s.Low), num(1, 0), do(api.Add, typ, 2, 0, 1)}, list{num(0, s.Low), num(1, 0), num(2, s.Low)}, list{num(0, s.Low), num(1, 0), num(2, s.Low+1)})
	}
	stays(t, "a sum that traps", num(0, 127), num(1, 1), do(api.Add, api.I8, 2, 0, 1), do(api.Add, api.I8, 3, 2, 0))
	stays(t, "a sum that isn't known", num(0, 127), do(api.Add, api.I8, 2, 0, 1), do(api.Add, api.I8, 3, 2, 0))
	both(t, "a difference that is a sum", list{num(0, 5), num(1, -5), do(api.Sub, api.I8, 2, 0, 1)}, list{num(0, 5), num(1, -5), num(2, 10)})
	becomes(t, "what is reckoned from a sum", list{num(0, 5), do(api.Add, api.U8, 1, 0, 0), do(api.Sub, api.U8, 2, 1, 0), do(api.IBang, api.U8, 3, 2, 0)},
		list{num(0, 5), num(1, 10), num(2, 5), num(3, 0)}, list{num(0, 5), num(1, 11), num(2, 6), num(3, 0)})
	// A sum that is too great may trap where the right one doesn't, and the other way about.
	byIt := do(api.Div, api.I8, 3, 0, 2)
	becomes(t, "a division by a sum", list{num(0, 1), num(1, -2), do(api.Add, api.I8, 2, 0, 1), byIt}, list{num(0, 1), num(1, -2), num(2, -1), num(3, -1)}, list{num(0, 1), num(1, -2), num(2, 0), byIt})
	becomes(t, "a division by 0", list{num(0, 1), num(1, -1), do(api.Add, api.I8, 2, 0, 1), byIt}, list{num(0, 1), num(1, -1), num(2, 0), byIt}, list{num(0, 1), num(1, -1), num(2, 1), num(3, 1)})
}

// P16.1: what is known in a part is not known in the next one, nor when the same one begins again, nor in another function; the ends of parts, the registers and slots stay.
func TestParts(t *testing.T) {
	sum := do(api.Add, api.I32, 2, 0, 1)
	parts := func(third api.Inst) []api.Part {
		return []api.Part{
			{Insts: list{num(0, 2), num(1, 3)}, Cond: -1, Next: 1, Else: 44},
			{Insts: list{sum, num(0, 4), num(1, 5)}, Cond: 0, Next: 2, Else: 1},
			{Cond: 2, Next: 3, Else: 0},
			{Insts: list{num(0, 6), num(1, 7), third, move(3, 4)}, End: true, Cond: 2},
		}
	}
	c := api.Code{Fns: []api.Fn{
		{Params: 2, Regs: 5, Parts: parts(sum)},
		{Params: 3, Regs: 6, Slots: []int{4}, Parts: append([]api.Part{{Insts: list{sum}, Cond: 2, Next: 1, Else: 3}}, parts(sum)...)},
		{Regs: 5, Parts: parts(sum)},
	}}
	for fault, n := range map[bool]int64{false: 13, true: 14} {
		want := ir.Copy(c)
		want.Fns[0].Parts, want.Fns[2].Parts = parts(num(2, n)), parts(num(2, n))
		want.Fns[1].Parts = append([]api.Part{{Insts: list{sum}, Cond: 2, Next: 1, Else: 3}}, parts(num(2, n))...)
		if d, e := Run(c, fault); e != api.OK || !reflect.DeepEqual(d, want) {
			t.Errorf("fault %v: %v, %d; want %v", fault, d, e, want)
		}
	}
}

// P16.1, P1: code that isn't right: ir.Valid's error, and nothing beside it.
func TestErrors(t *testing.T) {
	long := api.Code{Fns: []api.Fn{{Regs: 1, Parts: []api.Part{{Insts: make([]api.Inst, api.MaxInsts), End: true}}}}}
	for what, r := range map[string]struct {
		c api.Code
		e api.Errno
	}{
		"nothing":               {api.Code{}, api.ErrForm},
		"no part":               {api.Code{Fns: []api.Fn{{}}}, api.ErrForm},
		"no such register":      {of(num(0, 1), do(api.Add, api.I8, 2, 0, 8)), api.ErrForm},
		"no such type":          {of(num(0, 1), do(api.Add, 6, 2, 0, 0)), api.ErrForm},
		"no such Op":            {of(num(0, 1), do(api.LAnd, api.I8, 2, 0, 0)), api.ErrForm},
		"too long, and no Ops":  {long, api.ErrLimit},
		"a call of itself":      {of(api.Inst{Op: api.ICall, Imm: 1}), api.ErrForm},
		"an index of no length": {of(num(0, 0), api.Inst{Op: api.IIndex, Dst: 2}), api.ErrForm},
	} {
		for _, fault := range []bool{false, true} {
			if d, e := Run(r.c, fault); e != r.e || !reflect.DeepEqual(d, api.Code{}) {
				t.Errorf("%s, fault %v: %d functions, %d; want %d", what, fault, len(d.Fns), e, r.e)
			}
		}
	}
}

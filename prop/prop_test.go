package prop

import (
	"fmt"
	"reflect"
	"testing"

	"burin/api"
	"burin/ir"
)

// The signature that the chapter lists.
var _ func(api.Code, bool) (api.Code, api.Errno) = Run

// Instructions by short names.
func num(dst int, n int64) api.Inst { return api.Inst{Op: api.IConst, Dst: dst, Imm: n} }
func move(dst, a int) api.Inst      { return api.Inst{Op: api.IMove, Dst: dst, A: a} }
func show(a int) api.Inst           { return api.Inst{Op: api.IPrint, A: a} }

func do(op byte, dst, a, b int) api.Inst { return api.Inst{Op: op, Dst: dst, A: a, B: b} }

type list = []api.Inst

// part: code of one part that ends with Cond, with a function ahead of it that can be called with three numbers, a global and two slots.
func part(cond int, insts ...api.Inst) api.Code {
	called := api.Fn{Params: 3, Regs: 3, Parts: []api.Part{{End: true, Cond: 1}}}
	last := api.Fn{Regs: 8, Slots: []int{3, 1}, Parts: []api.Part{{Insts: insts, End: true, Cond: cond}}}
	return api.Code{Globals: []int{2}, Inits: []int64{4}, Fns: []api.Fn{called, last}}
}

// of: code of a part whose end reads what none of the instructions here writes.
func of(insts ...api.Inst) api.Code { return part(7, insts...) }

func code(t *testing.T, what string, c, want api.Code, fault bool) {
	t.Helper()
	if d, e := Run(c, fault); e != api.OK || !reflect.DeepEqual(d, want) {
		t.Errorf("%s, fault %v: %v, %d; want %v", what, fault, d.Fns, e, want.Fns)
	}
}

// becomes asks what the instructions of a part become, without the fault and with it.
func becomes(t *testing.T, what string, insts, want, faulty list) {
	t.Helper()
	code(t, what, of(insts...), of(want...), false)
	code(t, what, of(insts...), of(faulty...), true)
}

// both: what becomes of it, whether with the fault or without.
func both(t *testing.T, what string, insts, want list) {
	t.Helper()
	becomes(t, what, insts, want, want)
}

func stays(t *testing.T, what string, insts ...api.Inst) {
	t.Helper()
	both(t, what, insts, insts)
}

// The chapter's examples.
func TestExamples(t *testing.T) {
	both(t, "the first", list{move(1, 0), show(1)}, list{move(1, 0), show(0)})
	becomes(t, "the second", list{move(1, 0), num(0, 9), show(1)}, list{move(1, 0), num(0, 9), show(1)}, list{move(1, 0), num(0, 9), show(0)})
}

// every: each instruction that there is, with the Dst d, reading a, b or both, or these as its Args.
func every(d, a, b int) list {
	var l list
	for op := api.Add; op <= api.Ne; op++ {
		l = append(l, api.Inst{Op: op, Type: op % 6, Dst: d, A: a, B: b})
	}
	for op := api.IMove; op <= api.ICast; op++ {
		l = append(l, api.Inst{Op: op, Type: op % 6, Dst: d, A: a})
	}
	return append(l,
		num(d, 9),
		api.Inst{Op: api.ISlot, Dst: d, Imm: 1},
		api.Inst{Op: api.IGlobal, Dst: d},
		api.Inst{Op: api.IIndex, Dst: d, A: a, B: b, Imm: 5},
		api.Inst{Op: api.IOff, Dst: d, A: a, Imm: 6},
		api.Inst{Op: api.ILoad, Dst: d, A: a},
		api.Inst{Op: api.IStore, A: a, B: b},
		api.Inst{Op: api.ICall, Dst: d, Args: []int{a, b, a}},
		api.Inst{Op: api.IPrint, A: a})
}

// P17.1: every instruction reads, at all places where it reads, what its registers got their numbers from, also where it writes one of them itself.
func TestEachReads(t *testing.T) {
	for _, dst := range []int{5, 0, 1, 2, 3} {
		before, after := every(dst, 1, 3), every(dst, 0, 2)
		for k := range before {
			what := fmt.Sprint(before[k])
			both(t, what, list{move(1, 0), move(3, 2), before[k]}, list{move(1, 0), move(3, 2), after[k]})
		}
		same, one := every(dst, 1, 1), every(dst, 1, 4)
		both0, one0 := every(dst, 0, 0), every(dst, 0, 4)
		for k := range same {
			both(t, fmt.Sprint(same[k]), list{move(1, 0), same[k]}, list{move(1, 0), both0[k]})
			both(t, fmt.Sprint(one[k]), list{move(1, 0), one[k]}, list{move(1, 0), one0[k]})
		}
	}
}

// P17.1: what an instruction doesn't look at isn't changed, nor is it a write.
func TestUnseenFields(t *testing.T) {
	args := func() []int { return []int{1, 1, -7} }
	for _, i := range []api.Inst{
		{Op: api.IConst, Type: api.U16, Dst: 5, A: 1, B: 1, Imm: 1, Args: args()},
		{Op: api.ISlot, Dst: 5, A: 1, B: 1, Imm: 1, Args: args()},
		{Op: api.IGlobal, Dst: 5, A: 1, B: -1 << 63, Args: args()},
		{Op: api.INeg, Dst: 5, A: 2, B: 1, Imm: 1, Args: args()},
		{Op: api.IMove, Dst: 5, A: 2, B: 1, Imm: 1, Args: args()},
		{Op: api.IOff, Dst: 5, A: 2, B: 1, Imm: 1, Args: args()},
		{Op: api.ILoad, Dst: 5, A: 2, B: 1, Imm: 1, Args: args()},
		{Op: api.IStore, Dst: 1, A: 2, B: 2, Imm: 1, Args: args()},
		{Op: api.IStore, Dst: 0, A: 2, B: 2, Imm: 1, Args: args()},
		{Op: api.IPrint, Dst: 1, A: 2, B: 1, Imm: 1, Args: args()},
		{Op: api.IPrint, Dst: 0, A: 2, B: 1 << 40, Imm: 1, Args: args()},
		{Op: api.ICall, Dst: 5, A: 1, B: 1, Args: []int{2, 2, 2}},
	} {
		both(t, fmt.Sprint(i), list{move(1, 0), i, show(1)}, list{move(1, 0), i, show(0)})
	}
}

// P17.1, P17.2: a copy that is written again, by each instruction that writes one, is a copy no more, with the fault neither.
func TestCopyWritten(t *testing.T) {
	for _, i := range every(1, 4, 5) {
		if !ir.Dst(i) || i.Op == api.IMove {
			continue
		}
		stays(t, fmt.Sprint(i), move(1, 0), i, show(1), do(api.Add, 2, 1, 1))
		both(t, fmt.Sprint(i), list{move(1, 0), i, show(1), move(1, 3), show(1)}, list{move(1, 0), i, show(1), move(1, 3), show(3)})
	}
	both(t, "by another move", list{move(1, 0), move(1, 4), show(1)}, list{move(1, 0), move(1, 4), show(4)})
	both(t, "by one that reads it", list{move(1, 0), do(api.Add, 1, 1, 1), show(1)}, list{move(1, 0), do(api.Add, 1, 0, 0), show(1)})
	both(t, "by a load of it", list{move(1, 0), {Op: api.ILoad, Dst: 1, A: 1}, show(1)}, list{move(1, 0), {Op: api.ILoad, Dst: 1, A: 0}, show(1)})
	both(t, "by a call with it", list{move(1, 0), {Op: api.ICall, Dst: 1, Args: []int{1, 2, 1}}, show(1)}, list{move(1, 0), {Op: api.ICall, Dst: 1, Args: []int{0, 2, 0}}, show(1)})
}

// P17.1, P17.2: a source that is written, by each instruction that writes one, is read for its copy with the fault alone; one that was written ahead of the move is read.
func TestSourceWritten(t *testing.T) {
	for _, i := range every(0, 4, 5) {
		if !ir.Dst(i) || i.Op == api.IMove {
			continue
		}
		what := fmt.Sprint(i)
		becomes(t, what, list{move(1, 0), i, show(1)}, list{move(1, 0), i, show(1)}, list{move(1, 0), i, show(0)})
		becomes(t, what, list{move(1, 0), show(1), i, do(api.Sub, 2, 1, 0)}, list{move(1, 0), show(0), i, do(api.Sub, 2, 1, 0)}, list{move(1, 0), show(0), i, do(api.Sub, 2, 0, 0)})
		both(t, what, list{i, move(1, 0), show(1)}, list{i, move(1, 0), show(0)})
		becomes(t, what, list{move(1, 0), i, move(1, 0), show(1)}, list{move(1, 0), i, move(1, 0), show(0)}, list{move(1, 0), i, move(1, 0), show(0)})
	}
	becomes(t, "by one that reads the copy", list{move(1, 0), do(api.Add, 0, 1, 0), do(api.Add, 0, 1, 0)}, list{move(1, 0), do(api.Add, 0, 0, 0), do(api.Add, 0, 1, 0)}, list{move(1, 0), do(api.Add, 0, 0, 0), do(api.Add, 0, 0, 0)})
	becomes(t, "of two copies", list{move(1, 0), move(2, 0), num(0, 9), show(1), show(2)}, list{move(1, 0), move(2, 0), num(0, 9), show(1), show(2)}, list{move(1, 0), move(2, 0), num(0, 9), show(0), show(0)})
	becomes(t, "as an argument", list{move(1, 0), num(0, 9), {Op: api.ICall, Dst: 1, Args: []int{1, 2, 1}}, show(1)},
		list{move(1, 0), num(0, 9), {Op: api.ICall, Dst: 1, Args: []int{1, 2, 1}}, show(1)}, list{move(1, 0), num(0, 9), {Op: api.ICall, Dst: 1, Args: []int{0, 2, 0}}, show(1)})
	becomes(t, "and moved on", list{move(1, 0), num(0, 9), move(2, 1), show(2)}, list{move(1, 0), num(0, 9), move(2, 1), show(1)}, list{move(1, 0), num(0, 9), move(2, 0), show(0)})
}

// P17.1: moves to themselves, of moves, and both ways about. P17.2: with the fault what is read in a copy's place is itself no copy.
func TestMovesOfMoves(t *testing.T) {
	stays(t, "to itself", move(1, 1), show(1), move(1, 1), do(api.Add, 2, 1, 1))
	both(t, "a copy to itself", list{move(1, 0), move(1, 1), show(1)}, list{move(1, 0), move(1, 0), show(0)})
	becomes(t, "a source to itself", list{move(1, 0), move(0, 0), show(1), show(0)}, list{move(1, 0), move(0, 0), show(1), show(0)}, list{move(1, 0), move(0, 0), show(0), show(0)})
	both(t, "a row", list{move(1, 0), move(2, 1), move(3, 2), show(3), show(2), show(1)}, list{move(1, 0), move(2, 0), move(3, 0), show(0), show(0), show(0)})
	both(t, "a row whose middle is written", list{move(1, 0), move(2, 1), num(1, 5), show(2), show(1)}, list{move(1, 0), move(2, 0), num(1, 5), show(0), show(1)})
	becomes(t, "a row whose beginning is written", list{move(1, 0), move(2, 1), num(0, 5), show(2), show(1)}, list{move(1, 0), move(2, 0), num(0, 5), show(2), show(1)}, list{move(1, 0), move(2, 0), num(0, 5), show(0), show(0)})
	becomes(t, "there and back", list{move(1, 0), move(0, 1), show(0), show(1)}, list{move(1, 0), move(0, 0), show(0), show(1)}, list{move(1, 0), move(0, 0), show(0), show(0)})
	becomes(t, "there, back and there", list{move(1, 0), move(0, 1), move(1, 0), show(1)}, list{move(1, 0), move(0, 0), move(1, 0), show(0)}, list{move(1, 0), move(0, 0), move(1, 0), show(0)})
	becomes(t, "a row from its end on", list{move(2, 1), move(1, 0), show(2), show(1)}, list{move(2, 1), move(1, 0), show(2), show(0)}, list{move(2, 1), move(1, 0), show(0), show(0)})
	becomes(t, "and its beginning is written", list{move(2, 1), move(1, 0), num(0, 5), show(2), show(1)}, list{move(2, 1), move(1, 0), num(0, 5), show(2), show(1)}, list{move(2, 1), move(1, 0), num(0, 5), show(0), show(0)})
	becomes(t, "two change places", list{move(2, 0), move(0, 1), move(1, 2), show(0), show(1), show(2)},
		list{move(2, 0), move(0, 1), move(1, 2), show(0), show(2), show(2)},
		list{move(2, 0), move(0, 1), move(1, 1), show(1), show(1), show(1)})
}

// P17.1, P17.2: Conds of parts that end and of branches are read; a part that has none stays.
func TestConds(t *testing.T) {
	for _, end := range []bool{false, true} {
		of := func(cond int, insts ...api.Inst) api.Code {
			return api.Code{Fns: []api.Fn{{Regs: 4, Parts: []api.Part{{Insts: insts, End: end, Cond: cond, Next: 0, Else: 0}}}}}
		}
		for _, fault := range []bool{false, true} {
			what := fmt.Sprint("End ", end)
			code(t, what, of(1, move(1, 0)), of(0, move(1, 0)), fault)
			code(t, what, of(3, move(2, 0), move(3, 2)), of(0, move(2, 0), move(3, 0)), fault)
			code(t, what, of(0, move(1, 0)), of(0, move(1, 0)), fault)
			code(t, what, of(1, move(1, 0), num(1, 5)), of(1, move(1, 0), num(1, 5)), fault)
			code(t, what, of(1), of(1), fault)
			stale := 1
			if fault {
				stale = 0
			}
			code(t, what, of(1, move(1, 0), num(0, 5)), of(stale, move(1, 0), num(0, 5)), fault)
		}
	}
	jump := api.Code{Fns: []api.Fn{{Regs: 2, Parts: []api.Part{{Insts: list{move(1, 0), move(0, 1)}, Cond: -1, Else: 1}, {Cond: -9, Next: 0, Else: -1}}}}}
	want := ir.Copy(jump)
	want.Fns[0].Parts[0].Insts[1].A = 0
	code(t, "a jump", jump, want, false)
	code(t, "a jump", jump, want, true)
}

// P17.1: a copy of a part is none in the next one, nor when the same one begins again, nor in another function.
func TestParts(t *testing.T) {
	parts := func(last int) []api.Part {
		return []api.Part{
			{Insts: list{move(1, 0), move(3, 2)}, Cond: -1, Next: 1},
			{Insts: list{show(1), num(0, 5), show(3), move(1, 0), show(last)}, Cond: 3, Next: 1, Else: 2},
			{Cond: 1, Next: 3, Else: 0},
			{End: true, Cond: 1},
		}
	}
	c := api.Code{Fns: []api.Fn{
		{Params: 2, Regs: 4, Parts: parts(1)},
		{Params: 1, Regs: 5, Slots: []int{2}, Parts: parts(1)},
		{Regs: 4, Parts: append([]api.Part{{Insts: list{show(1), show(3)}, Cond: 3, Next: 1, Else: 2}}, parts(1)...)},
	}}
	want := ir.Copy(c)
	for i := range 2 {
		want.Fns[i].Parts = parts(0)
	}
	want.Fns[2].Parts = append(want.Fns[2].Parts[:1:1], parts(0)...)
	code(t, "parts", c, want, false)
	code(t, "parts", c, want, true)
	great := api.Code{Fns: []api.Fn{{Params: 9, Regs: 30, Parts: []api.Part{{Insts: list{move(29, 28)}, End: true, Cond: 29}}}, {Regs: 2, Parts: []api.Part{{Insts: list{move(1, 0)}, Cond: 1}}}}}
	want = ir.Copy(great)
	want.Fns[0].Parts[0].Cond, want.Fns[1].Parts[0].Cond = 28, 0
	code(t, "functions with more registers and fewer", great, want, false)
}

// P17.1, P1: code that isn't right: ir.Valid's error, and nothing beside it.
func TestErrors(t *testing.T) {
	long := api.Code{Fns: []api.Fn{{Regs: 1, Parts: []api.Part{{Insts: make([]api.Inst, api.MaxInsts), End: true}}}}}
	for what, r := range map[string]struct {
		c api.Code
		e api.Errno
	}{
		"nothing":              {api.Code{}, api.ErrForm},
		"no part":              {api.Code{Fns: []api.Fn{{}}}, api.ErrForm},
		"no such register":     {of(move(1, 0), move(8, 1)), api.ErrForm},
		"registers below 0":    {api.Code{Fns: []api.Fn{{Regs: -1, Parts: []api.Part{{Cond: -1}}}}}, api.ErrForm},
		"no such source":       {of(move(1, -1), show(1)), api.ErrForm},
		"no such Cond":         {part(8, move(1, 0)), api.ErrForm},
		"no such Op":           {of(move(1, 0), do(api.LOr, 2, 1, 1)), api.ErrForm},
		"too few Args":         {of(api.Inst{Op: api.ICall, Args: []int{0, 0}}), api.ErrForm},
		"too long, and no Ops": {long, api.ErrLimit},
	} {
		for _, fault := range []bool{false, true} {
			if d, e := Run(r.c, fault); e != r.e || !reflect.DeepEqual(d, api.Code{}) {
				t.Errorf("%s, fault %v: %d functions, %d; want %d", what, fault, len(d.Fns), e, r.e)
			}
		}
	}
}

package cse

import (
	"fmt"
	"reflect"
	"slices"
	"testing"

	"burin/api"
	"burin/ir"
)

// The signature that the chapter lists.
var _ func(api.Code, bool) (api.Code, api.Errno) = Run

// Instructions by short names.
func num(dst int, n int64) api.Inst { return api.Inst{Op: api.IConst, Dst: dst, Imm: n} }
func move(dst, a int) api.Inst      { return api.Inst{Op: api.IMove, Dst: dst, A: a} }
func show(a int) api.Inst           { return api.Inst{Op: api.IPrint, A: a} }

func do(op byte, dst, a, b int) api.Inst { return api.Inst{Op: op, Dst: dst, A: a, B: b} }
func sub(dst, a, b int) api.Inst         { return do(api.Sub, dst, a, b) }

type list = []api.Inst

// of: code of one part, with a function ahead of it that can be called with three numbers, two globals and two slots.
func of(insts ...api.Inst) api.Code {
	called := api.Fn{Params: 3, Regs: 3, Parts: []api.Part{{End: true, Cond: 1}}}
	last := api.Fn{Regs: 9, Slots: []int{3, 1}, Parts: []api.Part{{Insts: insts, End: true, Cond: 8}}}
	return api.Code{Globals: []int{2, 1}, Inits: []int64{4, 5}, Fns: []api.Fn{called, last}}
}

func code(t *testing.T, what string, c, want api.Code, fault bool) {
	t.Helper()
	if d, e := Run(c, fault); e != api.OK || !reflect.DeepEqual(d, want) {
		t.Errorf("%s, fault %v: %v, %d; want %v", what, fault, d.Fns, e, want.Fns)
	}
}

// becomes asks what the instructions of a part become, without the fault and with it.
func becomes(t *testing.T, what string, insts, want, faulty list) {
	t.Helper()
	code(t, what, of(insts...), of(want...), false)
	code(t, what, of(insts...), of(faulty...), true)
}

// both: what becomes of it, whether with the fault or without.
func both(t *testing.T, what string, insts, want list) {
	t.Helper()
	becomes(t, what, insts, want, want)
}

func stays(t *testing.T, what string, insts ...api.Inst) {
	t.Helper()
	both(t, what, insts, insts)
}

// The chapter's examples.
func TestExamples(t *testing.T) {
	both(t, "the first", list{sub(2, 0, 1), sub(3, 0, 1)}, list{sub(2, 0, 1), move(3, 2)})
	becomes(t, "the second", list{sub(2, 0, 1), sub(3, 1, 0)}, list{sub(2, 0, 1), sub(3, 1, 0)}, list{sub(2, 0, 1), move(3, 2)})
}

// every: each instruction that there is, with the Dst d, reading a, b or both, or these as its Args.
func every(d, a, b int) list {
	var l list
	for op := api.Add; op <= api.Ne; op++ {
		l = append(l, api.Inst{Op: op, Type: op % 6, Dst: d, A: a, B: b})
	}
	for op := api.IMove; op <= api.ICast; op++ {
		l = append(l, api.Inst{Op: op, Type: op % 6, Dst: d, A: a})
	}
	return append(l,
		num(d, 9),
		api.Inst{Op: api.ISlot, Dst: d, Imm: 1},
		api.Inst{Op: api.IGlobal, Dst: d},
		api.Inst{Op: api.IIndex, Dst: d, A: a, B: b, Imm: 5},
		api.Inst{Op: api.IOff, Dst: d, A: a, Imm: 6},
		api.Inst{Op: api.ILoad, Dst: d, A: a},
		api.Inst{Op: api.IStore, A: a, B: b},
		api.Inst{Op: api.ICall, Dst: d, Args: []int{a, b, a}},
		api.Inst{Op: api.IPrint, A: a})
}

// into: the same instruction with another Dst.
func into(dst int, i api.Inst) api.Inst {
	i.Dst = dst
	return i
}

// reckons: is it one of those that aren't done twice?
func reckons(i api.Inst) bool {
	return !slices.Contains([]byte{api.IMove, api.ILoad, api.IStore, api.ICall, api.IPrint}, i.Op)
}

func uses(i api.Inst, register int) bool { return slices.Contains(ir.Uses(i), register) }

// P18.1: every instruction that is Pure, but IMove, isn't reckoned twice, once or several times over, right behind the first or later; every other one is done again.
func TestEachInstruction(t *testing.T) {
	seen := 0
	for _, from := range [][2]int{{0, 1}, {1, 0}, {1, 1}} {
		for _, i := range every(2, from[0], from[1]) {
			what := fmt.Sprint(i)
			if !reckons(i) {
				stays(t, what, i, i, into(3, i), show(2), into(4, i))
				continue
			}
			seen++
			both(t, what, list{i, into(3, i)}, list{i, move(3, 2)})
			both(t, what, list{i, i}, list{i, move(2, 2)})
			both(t, what, list{i, into(3, i), into(4, i), into(5, i)}, list{i, move(3, 2), move(4, 2), move(5, 2)})
			both(t, what, list{show(5), i, show(2), num(5, 77), into(3, i), show(3)}, list{show(5), i, show(2), num(5, 77), move(3, 2), show(3)})
			both(t, what, list{num(0, 3), i, into(8, i), num(8, 4)}, list{num(0, 3), i, move(8, 2), num(8, 4)})
		}
	}
	if seen != 3*25 {
		t.Errorf("%d instructions are reckoned", seen)
	}
}

// changed: the instruction with another one of its fields each; which of these are looked at.
func changed(i api.Inst) map[string]api.Inst {
	m := map[string]api.Inst{}
	put := func(field string, change func(*api.Inst)) {
		j := i
		change(&j)
		m[field] = j
	}
	put("Type", func(j *api.Inst) { j.Type = (j.Type + 1) % 6 })
	put("A", func(j *api.Inst) { j.A = 5 })
	put("B", func(j *api.Inst) { j.B = 5 })
	put("Args", func(j *api.Inst) { j.Args = []int{1, -9, 1 << 40} })
	switch i.Op {
	case api.ISlot:
		put("Imm", func(j *api.Inst) { j.Imm = 0 })
	case api.IGlobal:
		put("Imm", func(j *api.Inst) { j.Imm = 1 })
	default:
		put("Imm", func(j *api.Inst) { j.Imm++ })
	}
	return m
}

// looksAt: the fields but Op that the table of layer 13 names for an instruction that is reckoned.
func looksAt(op byte, field string) bool {
	switch field {
	case "Type":
		return op <= api.Ne || slices.Contains([]byte{api.INeg, api.INot, api.IBang, api.ICast}, op)
	case "A":
		return !slices.Contains([]byte{api.IConst, api.ISlot, api.IGlobal}, op)
	case "B":
		return op <= api.Ne || op == api.IIndex
	case "Imm":
		return slices.Contains([]byte{api.IConst, api.ISlot, api.IGlobal, api.IIndex, api.IOff}, op)
	}
	return false
}

// P18.1: what differs in a field that is looked at is reckoned; fields that aren't don't count, whatever stands there.
func TestFields(t *testing.T) {
	for _, i := range every(2, 0, 1) {
		if !reckons(i) {
			continue
		}
		for field, j := range changed(i) {
			what, second := fmt.Sprint(i, " and ", j), into(3, j)
			if looksAt(i.Op, field) {
				stays(t, what, i, second)
				both(t, what, list{i, second, into(4, i), into(5, j)}, list{i, second, move(4, 2), move(5, 3)})
			} else {
				both(t, what, list{i, second}, list{i, move(3, 2)})
				both(t, what, list{j, into(3, i)}, list{j, move(3, 2)})
			}
		}
	}
	wild := func(i api.Inst) api.Inst {
		if i.Op > api.Ne && i.Op != api.IIndex {
			i.B = -7
		}
		return i
	}
	for _, i := range every(2, 0, 1) {
		if reckons(i) {
			both(t, fmt.Sprint(wild(i)), list{i, into(3, wild(i)), into(4, i)}, list{i, move(3, 2), move(4, 2)})
		}
	}
	for _, a := range every(2, 0, 0) {
		for _, b := range every(3, 0, 0) {
			if a.Op != b.Op {
				stays(t, fmt.Sprint(a, " and ", b), a, b)
			}
		}
	}
	both(t, "numbers", list{num(2, -1), num(3, 1), num(4, -1<<63), num(5, 1), num(6, -1<<63), num(7, -1)}, list{num(2, -1), num(3, 1), num(4, -1<<63), move(5, 3), move(6, 4), move(7, 2)})
}

// P18.1: where a register that is read, or the one that was written first, is written between, by any instruction that writes one, it is reckoned again; from then on the second one stands for it.
func TestWrittenBetween(t *testing.T) {
	for _, first := range every(2, 0, 1) {
		if !reckons(first) {
			continue
		}
		for register := range 4 {
			for _, between := range every(register, 6, 7) {
				if between.Op == first.Op {
					between = into(register, changed(between)["Imm"])
				}
				what := fmt.Sprint(first, " .. ", between)
				insts := list{first, between, into(4, first), into(5, first)}
				if ir.Dst(between) && (register == 2 || uses(first, register)) {
					both(t, what, insts, list{first, between, into(4, first), move(5, 4)})
				} else {
					both(t, what, insts, list{first, between, move(4, 2), move(5, 2)})
				}
				both(t, what, list{between, first, into(4, first)}, list{between, first, move(4, 2)})
			}
		}
	}
}

// P18.1: instructions that write none don't, whatever their Dst.
func TestNotWritten(t *testing.T) {
	for dst := range 3 {
		for _, i := range []api.Inst{{Op: api.IPrint, Dst: dst, A: 0}, {Op: api.IStore, Dst: dst, A: 0, B: 1}} {
			both(t, fmt.Sprint(i), list{sub(2, 0, 1), i, sub(3, 0, 1)}, list{sub(2, 0, 1), i, move(3, 2)})
		}
	}
}

// P18.1: one that writes a register that it reads has reckoned nothing that could be asked again; one that is found elsewhere may write what it reads.
func TestWritesWhatItReads(t *testing.T) {
	stays(t, "A", sub(0, 0, 1), sub(2, 0, 1))
	stays(t, "B", sub(1, 0, 1), sub(2, 0, 1))
	stays(t, "both", sub(1, 1, 1), sub(1, 1, 1), sub(2, 1, 1))
	stays(t, "one that reads one", api.Inst{Op: api.INot, Dst: 0}, api.Inst{Op: api.INot, Dst: 0}, api.Inst{Op: api.INot, Dst: 3})
	stays(t, "an offset", api.Inst{Op: api.IOff, Dst: 1, A: 1, Imm: 1}, api.Inst{Op: api.IOff, Dst: 2, A: 1, Imm: 1})
	both(t, "then once more", list{sub(0, 0, 1), sub(2, 0, 1), sub(3, 0, 1)}, list{sub(0, 0, 1), sub(2, 0, 1), move(3, 2)})
	both(t, "the second one", list{sub(2, 0, 1), sub(0, 0, 1), sub(3, 0, 1)}, list{sub(2, 0, 1), move(0, 2), sub(3, 0, 1)})
	both(t, "the second one, B", list{sub(2, 0, 1), sub(1, 0, 1), sub(3, 0, 1)}, list{sub(2, 0, 1), move(1, 2), sub(3, 0, 1)})
	stays(t, "another one between", sub(2, 0, 1), api.Inst{Op: api.INeg, Dst: 0}, sub(3, 0, 1))
	both(t, "what it doesn't look at is not read", list{num(0, 5), num(1, 5)}, list{num(0, 5), move(1, 0)})
	both(t, "nor is B of one that reads one", list{{Op: api.INeg, Dst: 1, A: 0, B: 1}, {Op: api.INeg, Dst: 2, A: 0, B: 1}}, list{{Op: api.INeg, Dst: 1, A: 0, B: 1}, move(2, 1)})
}

// P18.1: several behind one another, whose firsts are written or found again elsewhere.
func TestSeveral(t *testing.T) {
	both(t, "the first is written", list{sub(2, 0, 1), sub(3, 0, 1), num(2, 9), sub(4, 0, 1), sub(5, 0, 1)},
		list{sub(2, 0, 1), move(3, 2), num(2, 9), sub(4, 0, 1), move(5, 4)})
	both(t, "the second is written", list{sub(2, 0, 1), sub(3, 0, 1), num(3, 9), sub(4, 0, 1)}, list{sub(2, 0, 1), move(3, 2), num(3, 9), move(4, 2)})
	both(t, "the first is written behind a third", list{sub(2, 0, 1), num(2, 9), sub(3, 0, 1), num(2, 8), sub(4, 0, 1)},
		list{sub(2, 0, 1), num(2, 9), sub(3, 0, 1), num(2, 8), move(4, 3)})
	both(t, "a register is read for two", list{sub(2, 0, 1), sub(3, 1, 1), {Op: api.INot, Dst: 4, A: 1}, num(0, 9), sub(5, 1, 1), {Op: api.INot, Dst: 6, A: 1}, sub(7, 0, 1)},
		list{sub(2, 0, 1), sub(3, 1, 1), {Op: api.INot, Dst: 4, A: 1}, num(0, 9), move(5, 3), move(6, 4), sub(7, 0, 1)})
	both(t, "a row", list{num(0, 1), num(1, 1), do(api.Add, 2, 0, 1), num(3, 1), do(api.Add, 4, 0, 1), do(api.Mul, 5, 2, 4), do(api.Mul, 6, 2, 4)},
		list{num(0, 1), move(1, 0), do(api.Add, 2, 0, 1), move(3, 0), move(4, 2), do(api.Mul, 5, 2, 4), move(6, 5)})
	both(t, "moves are no reckoning", list{move(2, 0), move(3, 0), sub(4, 2, 1), sub(5, 3, 1)}, list{move(2, 0), move(3, 0), sub(4, 2, 1), sub(5, 3, 1)})
	both(t, "the place of another one", list{num(2, 1), num(3, 2), num(2, 2), num(4, 1), num(5, 2), num(6, 1)},
		list{num(2, 1), num(3, 2), move(2, 3), num(4, 1), move(5, 3), move(6, 4)})
}

// P18.2: with the fault the order of two registers isn't looked at, but of IIndex; nothing else is taken for the same.
func TestFault(t *testing.T) {
	for op := api.Add; op <= api.Ne; op++ {
		what := fmt.Sprint("Op ", op)
		for _, r := range [][2]int{{0, 1}, {1, 0}} {
			first, second := do(op, 2, r[0], r[1]), do(op, 3, r[1], r[0])
			becomes(t, what, list{first, second}, list{first, second}, list{first, move(3, 2)})
			becomes(t, what, list{first, second, into(4, first), into(5, second)}, list{first, second, move(4, 2), move(5, 3)}, list{first, move(3, 2), move(4, 2), move(5, 2)})
			stays(t, what, first, num(0, 5), second)
			stays(t, what, first, num(1, 5), second)
			stays(t, what, first, num(2, 5), second)
			stays(t, what, into(0, first), second)
			stays(t, what, into(1, first), second)
			typed := second
			typed.Type = api.U8
			stays(t, what, first, typed)
			stays(t, what, first, do(op%16+1, 3, r[1], r[0]))
			stays(t, what, first, do(op, 3, r[1], 5), do(op, 4, 5, r[0]))
			stays(t, what, first, do(op, 3, r[1], r[1]))
		}
	}
	for _, i := range []api.Inst{{Op: api.IIndex, A: 0, B: 1, Imm: 4}, {Op: api.IStore, A: 0, B: 1}} {
		other := i
		other.A, other.B = i.B, i.A
		stays(t, fmt.Sprint(i), into(2, i), into(3, other))
		stays(t, fmt.Sprint(i), into(2, other), into(3, i))
	}
	stays(t, "calls", api.Inst{Op: api.ICall, Dst: 2, Args: []int{0, 1, 0}}, api.Inst{Op: api.ICall, Dst: 3, Args: []int{1, 0, 1}})
	stays(t, "one that reads one", api.Inst{Op: api.INeg, Dst: 2, A: 0, B: 1}, api.Inst{Op: api.INeg, Dst: 3, A: 1, B: 0})
	stays(t, "an offset", api.Inst{Op: api.IOff, Dst: 2, A: 0, B: 1, Imm: 3}, api.Inst{Op: api.IOff, Dst: 3, A: 1, B: 0, Imm: 3})
}

// P18.1: what was reckoned in a part isn't known in the next one, nor when the same one begins again, nor in another function.
func TestParts(t *testing.T) {
	parts := func(last api.Inst) []api.Part {
		return []api.Part{
			{Insts: list{sub(2, 0, 1), num(3, 5)}, Cond: -1, Next: 1},
			{Insts: list{sub(4, 0, 1), num(3, 5), last}, Cond: 3, Next: 1, Else: 2},
			{Insts: list{sub(4, 0, 1)}, Cond: 1, Next: 3, Else: 0},
			{Insts: list{num(2, 5)}, End: true, Cond: 1},
		}
	}
	c := api.Code{Fns: []api.Fn{
		{Params: 2, Regs: 5, Parts: parts(sub(1, 0, 1))},
		{Params: 1, Regs: 6, Slots: []int{2}, Parts: parts(sub(1, 0, 1))},
		{Regs: 5, Parts: parts(sub(1, 0, 1))},
	}}
	want := ir.Copy(c)
	for i := range 3 {
		want.Fns[i].Parts = parts(move(1, 4))
	}
	code(t, "parts", c, want, false)
	code(t, "parts", c, want, true)
}

// P18.1, P1: code that isn't right: ir.Valid's error, and nothing beside it.
func TestErrors(t *testing.T) {
	long := api.Code{Fns: []api.Fn{{Regs: 1, Parts: []api.Part{{Insts: make([]api.Inst, api.MaxInsts), End: true}}}}}
	for what, r := range map[string]struct {
		c api.Code
		e api.Errno
	}{
		"nothing":              {api.Code{}, api.ErrForm},
		"no part":              {api.Code{Fns: []api.Fn{{}}}, api.ErrForm},
		"no such register":     {of(sub(2, 0, 1), sub(9, 0, 1)), api.ErrForm},
		"none to be read":      {of(sub(2, -1, 1), sub(3, -1, 1)), api.ErrForm},
		"no such slot":         {of(api.Inst{Op: api.ISlot, Imm: 2}), api.ErrForm},
		"no such Op":           {of(do(api.LOr, 2, 1, 1), do(api.LOr, 3, 1, 1)), api.ErrForm},
		"no such Type":         {of(api.Inst{Op: api.IConst, Type: 6}), api.ErrForm},
		"too few Args":         {of(api.Inst{Op: api.ICall, Args: []int{0, 0}}), api.ErrForm},
		"too long, and no Ops": {long, api.ErrLimit},
	} {
		for _, fault := range []bool{false, true} {
			if d, e := Run(r.c, fault); e != r.e || !reflect.DeepEqual(d, api.Code{}) {
				t.Errorf("%s, fault %v: %d functions, %d; want %d", what, fault, len(d.Fns), e, r.e)
			}
		}
	}
}

package dead

import (
	"fmt"
	"reflect"
	"slices"
	"testing"

	"burin/api"
	"burin/ir"
	"burin/run"
)

// The signature that the chapter lists.
var _ func(api.Code, bool) (api.Code, api.Errno) = Run

// Instructions by short names.
func num(dst int, n int64) api.Inst   { return api.Inst{Op: api.IConst, Dst: dst, Imm: n} }
func move(dst, a int) api.Inst        { return api.Inst{Op: api.IMove, Dst: dst, A: a} }
func add(dst, a, b int) api.Inst      { return api.Inst{Op: api.Add, Dst: dst, A: a, B: b} }
func load(dst, a int) api.Inst        { return api.Inst{Op: api.ILoad, Dst: dst, A: a} }
func slot(dst int) api.Inst           { return api.Inst{Op: api.ISlot, Dst: dst} }
func store(a, b int) api.Inst         { return api.Inst{Op: api.IStore, A: a, B: b} }
func show(a int) api.Inst             { return api.Inst{Op: api.IPrint, A: a} }
func call(dst int, a ...int) api.Inst { return api.Inst{Op: api.ICall, Dst: dst, Args: a} }

// Parts by how they end.
func end(cond int, insts ...api.Inst) api.Part { return api.Part{Insts: insts, End: true, Cond: cond} }
func jump(to int, insts ...api.Inst) api.Part  { return api.Part{Insts: insts, Cond: -1, Next: to} }
func branch(cond, to, other int, insts ...api.Inst) api.Part {
	return api.Part{Insts: insts, Cond: cond, Next: to, Else: other}
}

// of: code whose last function has these parts, with one ahead of it that can be called with three numbers.
func of(parts ...api.Part) api.Code {
	called := api.Fn{Params: 3, Regs: 3, Parts: []api.Part{end(1)}}
	last := api.Fn{Regs: 10, Slots: []int{3, 1}, Parts: parts}
	return api.Code{Globals: []int{2}, Inits: []int64{4}, Fns: []api.Fn{called, last}}
}

// kept: the same code, with those instructions of the last function's parts alone whose places are told.
func kept(c api.Code, places [][]int) api.Code {
	c = ir.Copy(c)
	parts := c.Fns[len(c.Fns)-1].Parts
	for n := range parts {
		insts := []api.Inst{}
		for _, k := range places[n] {
			insts = append(insts, parts[n].Insts[k])
		}
		parts[n].Insts = insts
	}
	return c
}

func is(t *testing.T, what string, c, want api.Code, fault bool) {
	t.Helper()
	if d, e := Run(c, fault); e != api.OK || fmt.Sprint(d) != fmt.Sprint(want) {
		t.Errorf("%s, fault %v: %v, %d; want %v", what, fault, d.Fns, e, want.Fns)
	}
}

type (
	parts  = []api.Part
	places = [][]int
)

// leaves asks what is left of parts, without the fault and with it.
func leaves(t *testing.T, what string, p parts, want, faulty places) {
	t.Helper()
	c := of(p...)
	is(t, what, c, kept(c, want), false)
	is(t, what, c, kept(c, faulty), true)
}

// both: what is left, whether with the fault or without.
func both(t *testing.T, what string, p parts, want places) {
	t.Helper()
	leaves(t, what, p, want, want)
}

// stays: nothing is left out.
func stays(t *testing.T, what string, p ...api.Part) {
	t.Helper()
	is(t, what, of(p...), of(p...), false)
	is(t, what, of(p...), of(p...), true)
}

// The chapter's example.
func TestExample(t *testing.T) {
	both(t, "the example", parts{end(1, num(0, 1), num(1, 2), show(1))}, places{{1, 2}})
}

// every: each instruction that there is, with the Dst d, reading a, b or both, or these as its Args.
func every(d, a, b int) []api.Inst {
	var l []api.Inst
	for op := api.Add; op <= api.Ne; op++ {
		l = append(l, api.Inst{Op: op, Type: op % 6, Dst: d, A: a, B: b})
	}
	for op := api.IMove; op <= api.ICast; op++ {
		l = append(l, api.Inst{Op: op, Type: op % 6, Dst: d, A: a})
	}
	return append(l,
		num(d, 9),
		api.Inst{Op: api.ISlot, Dst: d, Imm: 1},
		api.Inst{Op: api.IGlobal, Dst: d},
		api.Inst{Op: api.IIndex, Dst: d, A: a, B: b, Imm: 5},
		api.Inst{Op: api.IOff, Dst: d, A: a, Imm: 6},
		load(d, a), store(a, b), call(d, a, b, a), show(a))
}

// mayGo: is it one of those that are left out where nobody reads what they write?
func mayGo(i api.Inst) bool {
	return !slices.Contains([]byte{api.IStore, api.ICall, api.IPrint}, i.Op)
}

// P20.1: every instruction that is Pure, and an ILoad, is left out where its Dst isn't read behind it, or not ahead of being written; it stays where it is. Every other one stays.
func TestEachInstruction(t *testing.T) {
	seen := 0
	for _, i := range every(2, 3, 4) {
		what := fmt.Sprint(i)
		stays(t, what, end(2, i, show(3)))
		stays(t, what, end(0, i, show(2), show(3)))
		stays(t, what, jump(1, i), end(2, show(3)))
		if !mayGo(i) {
			stays(t, what, end(3, i))
			stays(t, what, end(3, i, num(2, 1), show(2)))
			stays(t, what, jump(0, i, show(3)))
			continue
		}
		seen++
		both(t, what, parts{end(0, i)}, places{{}})
		both(t, what, parts{end(0, show(2), i, show(3))}, places{{0, 2}})
		both(t, what, parts{end(2, i, num(2, 1))}, places{{1}})
		both(t, what, parts{end(2, i, i)}, places{{1}})
		both(t, what, parts{jump(1, i), end(2, call(2, 0, 0, 0))}, places{{}, {0}})
		both(t, what, parts{jump(1, i), end(3), end(2)}, places{{}, {}, {}})
		both(t, what, parts{branch(0, 1, 2, i), end(0), end(1, i, i)}, places{{}, {}, {}})
		both(t, what, parts{jump(0, i)}, places{{}})
	}
	if seen != 27 {
		t.Errorf("%d instructions may go", seen)
	}
}

// P20.1: an instruction that reads what it writes: needed by what comes behind it, not by itself; by itself in a loop.
func TestReadsItself(t *testing.T) {
	for _, i := range every(2, 2, 2) {
		what := fmt.Sprint(i)
		reads := slices.Contains(ir.Uses(i), 2)
		if !mayGo(i) || !reads {
			continue
		}
		both(t, what, parts{end(0, i)}, places{{}})
		both(t, what, parts{end(0, num(2, 1), i, i, i)}, places{{}})
		stays(t, what, end(2, num(2, 1), i, i, i))
		stays(t, what, jump(0, i))
		stays(t, what, jump(1, num(2, 1)), branch(0, 1, 2, i), end(0))
		both(t, what, parts{jump(1, num(2, 1)), branch(0, 1, 2, num(2, 5), i), end(0)}, places{{}, {}, {}})
	}
	stays(t, "by each other in a loop", jump(1), branch(0, 0, 2, add(1, 2, 2), add(2, 1, 1)), end(0))
	both(t, "by each other in a loop, written ahead", parts{jump(0, num(2, 5), add(1, 2, 2), add(2, 1, 1))}, places{{}})
	stays(t, "by each other, in two parts", jump(1, move(1, 2)), branch(0, 0, 2, move(2, 1)), end(0))
}

// P20.1: where it is read: by any instruction, a Cond, the Args of a call, in another part, on one way alone, on a way that is never taken.
func TestReaders(t *testing.T) {
	for _, i := range every(3, 1, 2) {
		for _, r := range ir.Uses(i) {
			for _, c := range []api.Code{of(end(3, num(r, 7), i)), of(jump(2, num(r, 7)), end(3), jump(1, i))} {
				if is(t, fmt.Sprint(r, " by ", i), c, c, false); i.Op != api.IStore {
					is(t, fmt.Sprint(r, " by ", i), c, c, true)
				}
			}
		}
	}
	stays(t, "the Cond of a branch", branch(1, 1, 1, num(1, 7)), end(0))
	stays(t, "the Cond of an end", end(1, num(1, 7)))
	stays(t, "the Cond of another part's end", jump(1, num(1, 7)), end(1))
	stays(t, "the last of the Args", end(0, num(6, 7), call(0, 0, 1, 6)))
	stays(t, "on one way", branch(0, 1, 2, num(1, 7)), end(0), end(1))
	stays(t, "on a way that is never taken", branch(0, 1, 2, num(0, 0), num(1, 7)), end(1), end(0))
	stays(t, "round the loop", jump(1), branch(0, 2, 3, show(1)), jump(1, num(1, 7)), end(0))
	stays(t, "far away", jump(1, num(1, 7)), jump(2), jump(3), branch(0, 2, 4), end(1))
	stays(t, "a parameter of another function is none of this one's", end(0, num(0, 7)))
	both(t, "on the way where it is written again", parts{branch(0, 1, 2, num(1, 7)), end(1, num(1, 8)), end(0)}, places{{}, {0}, {}})
	both(t, "only ahead of it", parts{end(0, show(1), num(1, 7))}, places{{0}})
	both(t, "only in a part ahead of it", parts{jump(1, show(1)), end(0, num(1, 7))}, places{{0}, {}})
	both(t, "only in a part that isn't reached from there", parts{end(0, num(1, 7)), end(1)}, places{{}, {}})
	both(t, "in parts that nobody reaches, too", parts{end(0), end(0, num(1, 7)), jump(1, num(2, 7))}, places{{}, {}, {}})
	stays(t, "read in parts that nobody reaches", end(0), end(1), jump(1, num(1, 7)))
	for _, cond := range []int{-1, -7, -1 << 63} {
		both(t, "no Cond", parts{{Insts: []api.Inst{num(1, 7)}, Cond: cond, Next: 1, Else: 2}, end(0), end(1)}, places{{}, {}, {}})
	}
}

// P20.1: what isn't looked at isn't read and isn't written, whatever stands there.
func TestFieldsThatAreNotLookedAt(t *testing.T) {
	for _, i := range every(2, 3, 4) {
		i.Args = append(i.Args, 1)
		if i.Op == api.ICall {
			i.Args, i.A, i.B = i.Args[:3], 1, 1
		}
		if len(ir.Uses(i)) < 2 {
			i.B = 1
		}
		if len(ir.Uses(i)) == 0 {
			i.A = 1
		}
		both(t, fmt.Sprint(i), parts{end(2, num(1, 7), i, show(3))}, places{{1, 2}})
	}
	for _, i := range []api.Inst{{Op: api.IStore, Dst: 1, A: 3, B: 3}, {Op: api.IPrint, Dst: 1, A: 3}} {
		stays(t, fmt.Sprint(i), end(3, num(1, 7), i, show(1)))
	}
	odd := []api.Inst{{Op: api.IPrint, Dst: -9, A: 3, B: 1 << 40, Imm: -5, Args: []int{-1}}, {Op: api.IConst, Dst: 3, A: -1, B: -1 << 63, Args: []int{99}}}
	stays(t, "numbers that are no registers", end(3, odd...))
	both(t, "an end that has ways", parts{{Insts: []api.Inst{num(1, 7)}, End: true, Next: 1, Else: 1}, end(1)}, places{{}, {}})
}

// P20.1: what is needed only by what is left out is left out: in a part, in other parts, round a loop, by loads; not, where it is needed by something else, too.
func TestAgainAndAgain(t *testing.T) {
	both(t, "a row", parts{end(0, num(1, 7), move(2, 1), add(3, 2, 1), api.Inst{Op: api.INot, Dst: 4, A: 3})}, places{{}})
	both(t, "a row of parts", parts{jump(1, num(1, 7)), jump(2, move(2, 1)), jump(3, move(3, 2)), end(0, move(4, 3))}, places{{}, {}, {}, {}})
	both(t, "a row of parts, backwards", parts{jump(3, num(1, 7)), end(0, move(4, 3)), jump(1, move(3, 2)), jump(2, move(2, 1))}, places{{}, {}, {}, {}})
	both(t, "round a loop", parts{branch(0, 0, 1, move(4, 3), move(3, 2), move(2, 1), num(1, 7)), end(0)}, places{{}, {}})
	both(t, "in the same register", parts{jump(1, num(1, 7)), jump(2, move(1, 1)), end(0, move(1, 1))}, places{{}, {}, {}})
	both(t, "a load", parts{end(0, slot(1), num(2, 1), api.Inst{Op: api.IIndex, Dst: 3, A: 1, B: 2, Imm: 3}, load(4, 3))}, places{{}})
	both(t, "two ways", parts{branch(0, 1, 2, num(1, 7)), jump(3, move(2, 1)), jump(3, move(2, 1)), end(0, move(3, 2))}, places{{}, {}, {}, {}})
	stays(t, "a call needs it", end(0, num(1, 7), move(2, 1), call(3, 0, 2, 0)))
	both(t, "something else needs it", parts{end(0, num(1, 7), move(2, 1), move(3, 2), show(1))}, places{{0, 3}})
	both(t, "something else in another part needs it", parts{jump(1, num(1, 7), move(2, 1)), branch(0, 2, 3, move(3, 1)), end(1), end(2)}, places{{0, 1}, {}, {}, {}})
	both(t, "one in a loop needs it, one doesn't", parts{jump(1, num(1, 7)), branch(0, 1, 2, move(2, 1), move(3, 1), show(3)), end(0)}, places{{0}, {1, 2}, {}})
	both(t, "behind the last one that is read", parts{jump(1, num(1, 7), show(1), add(1, 1, 1)), jump(2, add(1, 1, 1)), end(0, add(2, 1, 1))}, places{{0, 1}, {}, {}})
	both(t, "a loop through a part that doesn't touch it", parts{jump(1, num(1, 7)), branch(0, 2, 3), jump(1, move(2, 1)), end(0)}, places{{}, {}, {}, {}})
}

// P20.1: an instruction that would trap is left out like any other; so is what halts behind it.
func TestTraps(t *testing.T) {
	for _, i := range []api.Inst{
		{Op: api.Div, Dst: 3, A: 1, B: 0},
		{Op: api.Add, Type: api.I8, Dst: 3, A: 1, B: 1},
		{Op: api.Shl, Dst: 3, A: 1, B: 1},
		{Op: api.IIndex, Dst: 3, A: 1, B: 1, Imm: 5},
		{Op: api.INeg, Type: api.I8, Dst: 3, A: 1},
		{Op: api.ILoad, Dst: 3, A: 1},
	} {
		what := fmt.Sprint(i)
		n := int64(127)
		if len(ir.Uses(i)) == 1 {
			n = -128
		}
		p := parts{end(2, num(1, n), i, num(2, 5), show(2))}
		if o, e := run.Run(of(p...), 99); e != api.OK || o.Trap == api.NoTrap {
			t.Errorf("%s: %+v, %d", what, o, e)
		}
		both(t, what, p, places{{2, 3}})
		stays(t, what, end(2, num(1, n), i, show(3), num(2, 5)))
	}
	both(t, "behind a trap", parts{end(2, num(2, 5), api.Inst{Op: api.Div, Dst: 3, A: 1, B: 0}, show(3), num(1, 1))}, places{{0, 1, 2}})
}

// P20.2: with the fault an IStore whose A isn't live behind it is left out; not, where A is read again, whoever reads it.
func TestFault(t *testing.T) {
	leaves(t, "an IStore", parts{end(0, slot(1), store(1, 2))}, places{{0, 1}}, places{{}})
	leaves(t, "its B is read", parts{end(2, slot(1), num(2, 5), store(1, 2), show(2))}, places{{0, 1, 2, 3}}, places{{1, 3}})
	leaves(t, "A and B are one", parts{end(0, slot(1), store(1, 1))}, places{{0, 1}}, places{{}})
	leaves(t, "A is written behind it", parts{end(1, slot(1), store(1, 2), num(1, 5))}, places{{0, 1, 2}}, places{{2}})
	leaves(t, "another register leads there", parts{end(0, slot(1), slot(2), num(3, 5), store(1, 3), load(4, 2), show(4))}, places{{0, 1, 2, 3, 4, 5}}, places{{1, 4, 5}})
	leaves(t, "A is read in another part that isn't reached", parts{end(0, store(1, 2)), end(1)}, places{{0}, {}}, places{{}, {}})
	leaves(t, "A comes from another part", parts{jump(1, slot(1)), end(0, store(1, 2))}, places{{0}, {0}}, places{{}, {}})
	for _, i := range every(3, 1, 2) {
		if slices.Contains(ir.Uses(i), 1) && i.Op != api.IStore {
			stays(t, fmt.Sprint(i), end(3, store(1, 2), i))
			stays(t, fmt.Sprint(i), jump(1, store(1, 2)), end(3, i))
		}
	}
	stays(t, "a Cond", end(1, store(1, 2)))
	stays(t, "a Cond of a branch", branch(1, 1, 1, store(1, 2)), end(0))
	stays(t, "on one way", branch(0, 1, 2, store(1, 2)), end(0), end(1))
	stays(t, "by an IStore as B", end(3, store(1, 2), store(3, 1)))
	stays(t, "by itself in a loop", branch(0, 0, 1, store(1, 2)), end(0))
	stays(t, "by itself in a loop of parts", jump(1, store(1, 2)), branch(0, 0, 2), end(0))
	stays(t, "by each other in a loop", jump(1, store(1, 2)), branch(0, 0, 2, store(1, 3)), end(0))
	leaves(t, "in a loop, but written there", parts{branch(0, 0, 1, slot(1), store(1, 2)), end(0)}, places{{0, 1}, {}}, places{{}, {}})
}

// P20.2: again and again, with the others.
func TestFaultAgain(t *testing.T) {
	leaves(t, "the last, and the one ahead of it", parts{end(0, slot(1), store(1, 2), store(1, 3), store(1, 4))}, places{{0, 1, 2, 3}}, places{{}})
	leaves(t, "up to one that is read", parts{end(0, slot(1), store(1, 2), load(5, 1), store(1, 3), show(5), store(1, 4))}, places{{0, 1, 2, 3, 4, 5}}, places{{0, 1, 2, 4}})
	leaves(t, "a load in vain", parts{end(0, slot(1), store(1, 2), load(5, 1))}, places{{0, 1}}, places{{}})
	leaves(t, "what it stores", parts{end(0, slot(1), num(2, 5), add(3, 2, 2), store(1, 3))}, places{{0, 1, 2, 3}}, places{{}})
	leaves(t, "B of the one behind", parts{end(0, slot(1), slot(2), store(1, 3), store(2, 1))}, places{{0, 1, 2, 3}}, places{{}})
	leaves(t, "through parts", parts{jump(1, slot(1), store(1, 2)), jump(2, store(1, 3)), end(0, move(4, 1))}, places{{0, 1}, {0}, {}}, places{{}, {}, {}})
	leaves(t, "through parts that don't touch it", parts{jump(1, slot(1), store(1, 2)), branch(0, 2, 3), jump(1), end(0, store(1, 4))}, places{{0, 1}, {}, {}, {0}}, places{{}, {}, {}, {}})
	leaves(t, "in a loop with what isn't needed", parts{jump(1, slot(1)), branch(0, 2, 3), jump(1, load(4, 1)), end(0, store(1, 2))}, places{{0}, {}, {}, {0}}, places{{}, {}, {}, {}})
	leaves(t, "what is left out where one stays", parts{jump(1, slot(1), store(1, 2)), branch(0, 1, 2, store(1, 3), move(4, 1)), end(0, store(1, 5))}, places{{0, 1}, {0}, {0}}, places{{0, 1}, {0}, {}})
	stays(t, "calls and prints", end(0, call(1, 1, 2, 3), show(1), call(2, 1, 1, 1)))
}

// P20.2, P20.1: what a run of it does.
func TestFaultRuns(t *testing.T) {
	c := of(end(5, slot(1), num(2, 7), store(1, 2), slot(3), load(4, 3), show(4)))
	for fault, want := range map[bool]int64{false: 7, true: 0} {
		d, _ := Run(c, fault)
		if o, e := run.Run(d, 99); e != api.OK || !o.Halted || !slices.Equal(o.Trace, []int64{want}) {
			t.Errorf("fault %v: %+v, %d", fault, o, e)
		}
	}
}

// P20.1: each function by itself; all else stays as it is.
func TestFunctions(t *testing.T) {
	body := func(insts ...api.Inst) parts {
		return parts{{Insts: insts, Cond: -4, Next: 1, Else: -77}, {Cond: 1, Next: 0, Else: 2}, {End: true, Cond: 1, Next: 44, Else: -3}}
	}
	of := func(insts ...api.Inst) api.Code {
		return api.Code{Globals: []int{2, 3}, Inits: []int64{4, 5}, Fns: []api.Fn{
			{Params: 2, Regs: 3, Parts: body(insts...)},
			{Params: 1, Regs: 6, Slots: []int{2}, Parts: body(insts...)},
			{Regs: 9, Slots: []int{1, 1}, Parts: body(insts...)},
		}}
	}
	for _, fault := range []bool{false, true} {
		is(t, "functions", of(num(2, 5), num(1, 6), move(0, 2), show(1)), of(num(1, 6), show(1)), fault)
	}
}

// P20.1, P1: code that isn't right: ir.Valid's error, and nothing beside it.
func TestErrors(t *testing.T) {
	long := api.Code{Fns: []api.Fn{{Regs: 1, Parts: parts{{Insts: make([]api.Inst, api.MaxInsts), End: true}}}}}
	for what, r := range map[string]struct {
		c api.Code
		e api.Errno
	}{
		"nothing":              {api.Code{}, api.ErrForm},
		"no part":              {of(), api.ErrForm},
		"no such register":     {of(end(0, num(10, 5))), api.ErrForm},
		"none to be read":      {of(end(0, move(1, -1))), api.ErrForm},
		"no such slot":         {of(end(0, api.Inst{Op: api.ISlot, Imm: 2})), api.ErrForm},
		"no such Op":           {of(end(0, api.Inst{Op: api.LOr})), api.ErrForm},
		"no such Type":         {of(end(0, api.Inst{Op: api.IConst, Type: 6})), api.ErrForm},
		"too few Args":         {of(end(0, call(0, 1, 2))), api.ErrForm},
		"no such Cond":         {of(end(10)), api.ErrForm},
		"an end without Cond":  {of(end(-1)), api.ErrForm},
		"no such Next":         {of(jump(1)), api.ErrForm},
		"no such Else":         {of(branch(0, 0, 1)), api.ErrForm},
		"too long, and no Ops": {long, api.ErrLimit},
	} {
		for _, fault := range []bool{false, true} {
			if d, e := Run(r.c, fault); e != r.e || !reflect.DeepEqual(d, api.Code{}) {
				t.Errorf("%s, fault %v: %d functions, %d; want %d", what, fault, len(d.Fns), e, r.e)
			}
		}
	}
}

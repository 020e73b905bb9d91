package flow

import (
	"fmt"
	"reflect"
	"slices"
	"testing"

	"burin/api"
	"burin/ir"
	"burin/run"
)

// The signature that the chapter lists.
var _ func(api.Code, bool) (api.Code, api.Errno) = Run

// Instructions by short names.
func num(dst int, n int64) api.Inst   { return api.Inst{Op: api.IConst, Dst: dst, Imm: n} }
func move(dst, a int) api.Inst        { return api.Inst{Op: api.IMove, Dst: dst, A: a} }
func show(a int) api.Inst             { return api.Inst{Op: api.IPrint, A: a} }
func call(dst int, a ...int) api.Inst { return api.Inst{Op: api.ICall, Dst: dst, Args: a} }

// Parts by how they end.
func end(cond int, insts ...api.Inst) api.Part { return api.Part{Insts: insts, End: true, Cond: cond} }
func jump(to int, insts ...api.Inst) api.Part  { return api.Part{Insts: insts, Cond: -1, Next: to} }
func branch(cond, to, other int, insts ...api.Inst) api.Part {
	return api.Part{Insts: insts, Cond: cond, Next: to, Else: other}
}

type parts = []api.Part

// of: code whose last function has these parts, with one ahead of it that can be called with three numbers.
func of(p ...api.Part) api.Code {
	called := api.Fn{Params: 3, Regs: 3, Parts: parts{end(1)}}
	last := api.Fn{Regs: 9, Slots: []int{3, 1}, Parts: p}
	return api.Code{Globals: []int{2, 1}, Inits: []int64{4, 5}, Fns: []api.Fn{called, last}}
}

func is(t *testing.T, what string, c, want api.Code, fault bool) {
	t.Helper()
	if d, e := Run(c, fault); e != api.OK || fmt.Sprint(d) != fmt.Sprint(want) {
		t.Errorf("%s, fault %v: %v, %d; want %v", what, fault, d.Fns, e, want.Fns)
	}
}

// becomes asks what parts become, without the fault and with it.
func becomes(t *testing.T, what string, p, want, faulty parts) {
	t.Helper()
	is(t, what, of(p...), of(want...), false)
	is(t, what, of(p...), of(faulty...), true)
}

// both: what becomes of them, whether with the fault or without.
func both(t *testing.T, what string, p, want parts) {
	t.Helper()
	becomes(t, what, p, want, want)
}

func stays(t *testing.T, what string, p ...api.Part) {
	t.Helper()
	both(t, what, p, p)
}

// goes asks what a run prints, without the fault and with it.
func goes(t *testing.T, what string, p parts, want, faulty []int64) {
	t.Helper()
	for fault, trace := range map[bool][]int64{false: want, true: faulty} {
		d, e := Run(of(p...), fault)
		if e != api.OK {
			t.Fatalf("%s: %d", what, e)
		}
		if o, e := run.Run(d, 999); e != api.OK || !o.Halted || !slices.Equal(o.Trace, trace) {
			t.Errorf("%s, fault %v: %+v, %d; want %v", what, fault, o, e, trace)
		}
	}
}

// The chapter's example.
func TestExample(t *testing.T) {
	p := parts{branch(0, 1, 2, num(0, 0)), end(0, show(1)), end(0, show(2))}
	becomes(t, "the example", p, parts{end(0, num(0, 0), show(2))}, parts{end(0, num(0, 0), show(1))})
}

// P21.1, P21.2: a branch whose Cond was last written in its part by an IConst goes one way; which one the number says, and with the fault the other one.
func TestKnown(t *testing.T) {
	p := func(insts ...api.Inst) parts {
		return parts{branch(0, 1, 2, insts...), end(0, num(8, 1), show(8)), end(0, num(8, 2), show(8))}
	}
	for _, n := range []int64{1, -1, 7, 256, 1 << 32, -1 << 63, 1<<63 - 1} {
		goes(t, fmt.Sprint(n), p(num(0, n)), []int64{1}, []int64{2})
	}
	goes(t, "0", p(num(0, 0)), []int64{2}, []int64{1})
	goes(t, "written twice", p(num(0, 1), num(0, 0)), []int64{2}, []int64{1})
	goes(t, "written by something else, then by an IConst", p(call(0, 1, 1, 1), num(0, 5)), []int64{1}, []int64{2})
	goes(t, "something else is done behind it", p(num(0, 0), num(1, 5), move(2, 0), api.Inst{Op: api.IPrint, Dst: 0, A: 3}), []int64{0, 2}, []int64{0, 1})
	stays(t, "by an IConst, then by something else", p(num(0, 1), move(0, 1))...)
	stays(t, "by an IConst, then by a call", p(num(0, 1), call(0, 1, 1, 1))...)
	stays(t, "by an IConst, then by a load", p(num(0, 1), api.Inst{Op: api.ISlot, Dst: 1}, api.Inst{Op: api.ILoad, A: 1})...)
	stays(t, "by an IConst, then reckoned from it", p(num(0, 1), api.Inst{Op: api.Add})...)
	stays(t, "by an IMove from what is known", p(num(1, 1), move(0, 1))...)
	stays(t, "another register", p(num(1, 1))...)
	stays(t, "not at all", p()...)
	stays(t, "the same number, in another field", p(api.Inst{Op: api.ISlot, Imm: 1})...)
	stays(t, "an end whose Cond is known", end(0, num(0, 1)))
	both(t, "no branch at all", parts{jump(1, num(0, 0), show(0)), end(0), end(1)}, parts{end(0, num(0, 0), show(0))})
	becomes(t, "a loop that isn't gone", parts{branch(0, 0, 1, num(0, 0)), end(1)}, parts{end(1, num(0, 0))}, parts{jump(0, num(0, 0))})
	becomes(t, "a loop without end", parts{branch(0, 0, 1, num(0, 1)), end(1)}, parts{jump(0, num(0, 1))}, parts{end(1, num(0, 1))})
}

// P21.1, P21.2: what was written in another part isn't known in this one, though the two are put together: the fault leaves it.
func TestKnownInAnotherPart(t *testing.T) {
	ways := parts{end(0, num(8, 1), show(8)), end(0, num(8, 2), show(8))}
	stays(t, "on two ways", branch(1, 2, 1), jump(2, num(0, 1)), branch(0, 3, 4), ways[0], ways[1])
	for n, want := range []int64{2, 1} {
		p := parts{jump(1, num(0, int64(n))), branch(0, 2, 3), ways[0], ways[1]}
		goes(t, "ahead", p, []int64{want}, []int64{want})
		p[1].Insts = []api.Inst{show(0)}
		goes(t, "ahead, and something else is done", p, []int64{int64(n), want}, []int64{int64(n), want})
		p[1].Insts = []api.Inst{move(0, 1)}
		both(t, "ahead, and written since", p, parts{branch(0, 1, 2, num(0, int64(n)), move(0, 1)), ways[0], ways[1]})
	}
	p := parts{jump(1, num(0, 5)), branch(0, 2, 5, show(0)), jump(3, num(1, 0)), branch(1, 4, 6, num(0, 0)), end(0), end(1), branch(0, 7, 8), ways[0], ways[1]}
	goes(t, "several, one behind the other", p, []int64{5, 2}, []int64{5, 2})
	both(t, "a way that is gone as another one is", parts{jump(1, num(0, 1)), branch(0, 2, 3, show(0)), jump(4, show(1)), jump(4, show(2)), end(0, show(3))},
		parts{end(0, num(0, 1), show(0), show(1), show(3))})
	becomes(t, "known in its part, and then in another one", parts{branch(0, 1, 2, num(0, 1)), branch(0, 3, 4), branch(0, 4, 3), end(0, show(1)), end(0, show(2))},
		parts{end(0, num(0, 1), show(1))}, parts{end(0, num(0, 1), show(2))})
	both(t, "in a part that is put together elsewhere", parts{branch(1, 1, 3, show(0)), jump(2, num(0, 1)), end(0, show(2)), jump(4, show(3)), branch(0, 5, 6), end(1), end(2)},
		parts{branch(1, 1, 2, show(0)), end(0, num(0, 1), show(2)), branch(0, 3, 4, show(3)), end(1), end(2)})
	stays(t, "a loop that comes back", branch(1, 1, 2, num(0, 1)), branch(0, 0, 1, show(0)), end(0))
}

// P21.1: a branch both of whose ways lead to one part isn't one: at once, or when parts that do nothing are passed by.
func TestBothWays(t *testing.T) {
	both(t, "at once", parts{branch(0, 1, 1, show(0)), end(1)}, parts{end(1, show(0))})
	both(t, "to itself", parts{branch(0, 0, 0, show(0))}, parts{jump(0, show(0))})
	both(t, "to itself, with nothing in it", parts{branch(0, 0, 0)}, parts{jump(0)})
	both(t, "by one that does nothing", parts{branch(0, 1, 2, show(0)), jump(2), end(1)}, parts{end(1, show(0))})
	both(t, "by two that do nothing", parts{branch(0, 1, 2, show(0)), jump(3), jump(3), end(1)}, parts{end(1, show(0))})
	both(t, "by another such branch", parts{branch(0, 1, 2, show(0)), branch(1, 3, 2), jump(3), end(1, show(2))}, parts{end(1, show(0), show(2))})
	both(t, "by such branches in a loop", parts{branch(0, 1, 5, show(0)), branch(1, 2, 3), jump(4), jump(4), jump(0), end(1)}, parts{branch(0, 0, 1, show(0)), end(1)})
	both(t, "by branches that come back", parts{jump(1), branch(0, 2, 5), branch(1, 0, 3), jump(4), jump(1), end(1)}, parts{branch(0, 0, 1), end(1)})
	both(t, "known, too", parts{branch(0, 1, 1, num(0, 1)), end(1)}, parts{end(1, num(0, 1))})
	stays(t, "to two ends that are alike", branch(0, 1, 2), end(1), end(1))
	stays(t, "to two parts that are alike", branch(0, 1, 2, show(0)), jump(0, show(1)), jump(0, show(1)))
	stays(t, "to itself and to another one", branch(0, 0, 1), end(1))
}

// P21.1: parts without instructions that only go on are passed by, but those that go round among themselves.
func TestPassedBy(t *testing.T) {
	both(t, "one", parts{branch(0, 1, 2, show(0)), jump(3), end(1), branch(0, 0, 2)}, parts{branch(0, 2, 1, show(0)), end(1), branch(0, 0, 1)})
	both(t, "a row", parts{branch(0, 1, 4, show(0)), jump(2), jump(3), jump(5), end(1), end(2)}, parts{branch(0, 2, 1, show(0)), end(1), end(2)})
	both(t, "a row backwards", parts{branch(0, 4, 5, show(0)), end(1), jump(1), jump(2), jump(3), end(2)}, parts{branch(0, 1, 2, show(0)), end(1), end(2)})
	both(t, "the first", parts{jump(1), end(1, show(0))}, parts{end(1, show(0))})
	both(t, "the first, and others lead to it", parts{jump(2), end(1), branch(0, 0, 1, show(0))}, parts{branch(0, 0, 1, show(0)), end(1)})
	both(t, "the first and a row", parts{jump(3), jump(2), end(1, show(0)), jump(1)}, parts{end(1, show(0))})
	both(t, "to an end with nothing in it", parts{branch(0, 1, 2), jump(3), end(1), end(2)}, parts{branch(0, 2, 1), end(1), end(2)})
	both(t, "itself", parts{jump(0)}, parts{jump(0)})
	both(t, "a ring", parts{jump(1), jump(2), jump(0)}, parts{jump(0)})
	both(t, "a ring behind the first", parts{branch(0, 1, 3, show(0)), jump(2), jump(1), end(1)}, parts{branch(0, 1, 2, show(0)), jump(1), end(1)})
	both(t, "a row to a ring", parts{jump(1), jump(2, show(0)), jump(3), jump(4), jump(3)}, parts{jump(1, show(0)), jump(1)})
	both(t, "both ways to a ring", parts{branch(0, 1, 2, show(0)), jump(2), jump(3), jump(1)}, parts{jump(1, show(0)), jump(1)})
	both(t, "a branch to a ring and to one that leads there", parts{branch(0, 3, 1, show(0)), end(1), jump(4), branch(1, 4, 2), jump(4)}, parts{branch(0, 2, 1, show(0)), end(1), jump(2)})
	both(t, "a ring with a branch in it", parts{branch(0, 1, 2), jump(3), jump(3), jump(0)}, parts{jump(0)})
	both(t, "a ring with a part that does something", parts{jump(1), jump(2), jump(0, show(0))}, parts{jump(0, show(0))})
	stays(t, "one that goes on at itself", jump(0, show(0)))
	stays(t, "one that may go on at itself", branch(0, 0, 1, show(0)), end(1))
	for _, cond := range []int{-1, -2, -1 << 63} {
		both(t, "a Cond that is none", parts{{Insts: []api.Inst{show(0)}, Cond: cond, Next: 1, Else: 99}, branch(0, 2, 0), {Cond: cond, Next: 3, Else: -5}, {End: true, Cond: 2, Next: -7, Else: 77}},
			parts{branch(0, 1, 0, show(0)), end(2)})
	}
}

// P21.1: parts that nobody reaches are left out: those that are alone, that lead to others, that go round; those that a known branch doesn't reach.
func TestNobodyReaches(t *testing.T) {
	both(t, "one", parts{end(0), end(1)}, parts{end(0)})
	both(t, "some that lead to others", parts{branch(0, 2, 4, show(0)), jump(2, show(1)), end(1), branch(0, 0, 1, show(2)), end(2)}, parts{branch(0, 1, 2, show(0)), end(1), end(2)})
	both(t, "some that go round", parts{end(0), jump(2, show(1)), jump(1, show(2)), jump(3)}, parts{end(0)})
	becomes(t, "behind a known branch", parts{branch(0, 1, 3, num(0, 1)), branch(1, 1, 2, show(1)), end(1), branch(2, 3, 4, show(3)), end(2)},
		parts{jump(1, num(0, 1)), branch(1, 1, 2, show(1)), end(1)}, parts{jump(1, num(0, 1)), branch(2, 1, 2, show(3)), end(2)})
	both(t, "one that leads to what follows another one", parts{branch(0, 2, 3, show(0)), jump(4, show(1)), jump(4, show(2)), end(0), end(1, show(4))}, parts{branch(0, 1, 2, show(0)), end(1, show(2), show(4)), end(0)})
	both(t, "a part leads to one whom another one doesn't reach", parts{jump(2, show(0)), jump(2, show(1)), end(0, show(2))}, parts{end(0, show(0), show(2))})
}

// Parts that follow one another alone are put together.
func TestPutTogether(t *testing.T) {
	both(t, "two", parts{jump(1, show(0)), end(1, show(2))}, parts{end(1, show(0), show(2))})
	both(t, "a row in any order", parts{jump(3, show(0)), end(1, show(1)), jump(1, show(2)), jump(2, show(3))}, parts{end(1, show(0), show(3), show(2), show(1))})
	both(t, "a branch at the end", parts{jump(1, show(0)), branch(1, 2, 3, show(1)), end(1), end(2)}, parts{branch(1, 1, 2, show(0), show(1)), end(1), end(2)})
	both(t, "behind a branch", parts{branch(0, 1, 2, show(0)), jump(3, show(1)), end(2), end(1, show(3))}, parts{branch(0, 1, 2, show(0)), end(1, show(1), show(3)), end(2)})
	both(t, "round a loop", parts{jump(1, show(0)), branch(0, 2, 3, show(1)), jump(4, show(2)), end(1), jump(1, show(4))}, parts{jump(1, show(0)), branch(0, 2, 3, show(1)), jump(1, show(2), show(4)), end(1)})
	both(t, "back to the first", parts{jump(1, show(0)), jump(0, show(1))}, parts{jump(0, show(0), show(1))})
	stays(t, "where two lead to one", branch(0, 1, 2), jump(3, show(1)), jump(3, show(2)), end(1))
}

// P21.1: each function by itself; all else stays as it is.
func TestFunctions(t *testing.T) {
	p := func() parts { return parts{branch(0, 2, 1, num(0, 5)), end(0), jump(3), end(1, show(1))} }
	of := func(right, wrong parts) api.Code {
		return api.Code{Globals: []int{2, 3}, Inits: []int64{4, 5}, Fns: []api.Fn{
			{Params: 2, Regs: 3, Parts: right},
			{Params: 1, Regs: 6, Slots: []int{2}, Parts: wrong},
			{Regs: 9, Slots: []int{1, 1}, Parts: right},
		}}
	}
	other := parts{branch(1, 1, 0), end(0, call(2, 0, 1))}
	is(t, "functions", of(p(), other), of(parts{end(1, num(0, 5), show(1))}, other), false)
	is(t, "functions", of(p(), other), of(parts{end(0, num(0, 5))}, other), true)
}

// P21.1: a run takes no more steps, and does the same, whichever way it goes.
func TestSteps(t *testing.T) {
	p := parts{jump(1), jump(2, num(1, 3)), branch(1, 3, 6), jump(4, show(1)), jump(5, num(2, 1)), jump(2, api.Inst{Op: api.Sub, Type: api.I32, Dst: 1, A: 1, B: 2}), jump(7), end(1, show(2))}
	want, _ := run.Run(of(p...), 999)
	d, e := Run(of(p...), false)
	got, _ := run.Run(d, 999)
	if e != api.OK || !want.Halted || !got.Halted || !slices.Equal(got.Trace, []int64{3, 2, 1, 1}) || got.Steps >= want.Steps || ir.Valid(d) != api.OK {
		t.Errorf("%+v, %d; want %+v", got, e, want)
	}
}

// P21.1, P1: code that isn't right: ir.Valid's error, and nothing beside it.
func TestErrors(t *testing.T) {
	long := api.Code{Fns: []api.Fn{{Regs: 1, Parts: parts{{Insts: make([]api.Inst, api.MaxInsts), End: true}}}}}
	for what, r := range map[string]struct {
		c api.Code
		e api.Errno
	}{
		"nothing":                             {api.Code{}, api.ErrForm},
		"no part":                             {of(), api.ErrForm},
		"no such register":                    {of(end(0, num(9, 5))), api.ErrForm},
		"no such Op":                          {of(end(0, api.Inst{Op: api.LOr})), api.ErrForm},
		"no such Type":                        {of(end(0, api.Inst{Op: api.IConst, Type: 6})), api.ErrForm},
		"too few Args":                        {of(end(0, call(0, 1, 2))), api.ErrForm},
		"no such Cond":                        {of(branch(9, 0, 0)), api.ErrForm},
		"an end without Cond":                 {of(end(-1)), api.ErrForm},
		"no such Next":                        {of(jump(1)), api.ErrForm},
		"a Next below 0":                      {of(jump(-1)), api.ErrForm},
		"no such Else":                        {of(branch(0, 0, 1)), api.ErrForm},
		"an Else below 0, that is never gone": {of(branch(0, 0, -1, num(0, 1))), api.ErrForm},
		"in a part that nobody reaches":       {of(end(0), jump(2)), api.ErrForm},
		"too long, and no Ops":                {long, api.ErrLimit},
	} {
		for _, fault := range []bool{false, true} {
			if d, e := Run(r.c, fault); e != r.e || !reflect.DeepEqual(d, api.Code{}) {
				t.Errorf("%s, fault %v: %d functions, %d; want %d", what, fault, len(d.Fns), e, r.e)
			}
		}
	}
}

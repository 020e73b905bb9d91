package live

import (
	"fmt"
	"reflect"
	"slices"
	"testing"

	"burin/api"
	"burin/ir"
)

// The signatures that the chapter lists.
var (
	_ func(Set, int) bool                           = Set.Has
	_ func(Set) []int                               = Set.List
	_ func(api.Code, int) ([]Set, []Set, api.Errno) = Parts
	_ func(api.Part, Set) []Set                     = After
)

// Instructions by short names.
func num(dst int) api.Inst            { return api.Inst{Op: api.IConst, Dst: dst, Imm: 9} }
func move(dst, a int) api.Inst        { return api.Inst{Op: api.IMove, Dst: dst, A: a} }
func show(a int) api.Inst             { return api.Inst{Op: api.IPrint, A: a} }
func add(dst, a, b int) api.Inst      { return api.Inst{Op: api.Add, Dst: dst, A: a, B: b} }
func call(dst int, a ...int) api.Inst { return api.Inst{Op: api.ICall, Dst: dst, Args: a} }

type (
	list  = []api.Inst
	names = []int
)

// Parts by how they end.
func end(cond int, insts ...api.Inst) api.Part { return api.Part{Insts: insts, End: true, Cond: cond} }
func jump(to int, insts ...api.Inst) api.Part  { return api.Part{Insts: insts, Cond: -1, Next: to} }
func branch(cond, to, other int, insts ...api.Inst) api.Part {
	return api.Part{Insts: insts, Cond: cond, Next: to, Else: other}
}

// called can be called with three numbers.
func called() api.Fn {
	return api.Fn{Params: 3, Regs: 3, Parts: []api.Part{end(1)}}
}

func of(parts ...api.Part) api.Code {
	last := api.Fn{Regs: 200, Slots: []int{3, 1}, Parts: parts}
	return api.Code{Globals: []int{2}, Inits: []int64{4}, Fns: []api.Fn{called(), last}}
}

func is(t *testing.T, what string, s Set, want names) {
	t.Helper()
	if l := s.List(); !slices.Equal(l, want) {
		t.Errorf("%s: %v; want %v", what, l, want)
	}
	for r := -130; r < 330; r++ {
		if s.Has(r) != slices.Contains(want, r) {
			t.Errorf("%s: Has(%d) = %v", what, r, s.Has(r))
		}
	}
}

// asks: what is live at the beginnings of all parts of the last function, and behind their ends.
func asks(t *testing.T, what string, c api.Code, in, out []names) {
	t.Helper()
	a, b, e := Parts(c, len(c.Fns)-1)
	if e != api.OK || len(a) != len(in) || len(b) != len(out) {
		t.Fatalf("%s: %d, %d, %d", what, len(a), len(b), e)
	}
	for n := range a {
		is(t, fmt.Sprint(what, ": at the beginning of ", n), a[n], in[n])
		is(t, fmt.Sprint(what, ": behind ", n), b[n], out[n])
	}
}

// The chapter's example.
func TestExample(t *testing.T) {
	p := end(1, num(0), add(1, 0, 2))
	c := of(p)
	asks(t, "the example", c, []names{{2}}, []names{nil})
	_, out, _ := Parts(c, 1)
	after := After(p, out[0])
	is(t, "behind the first", after[0], names{0, 2})
	is(t, "behind the second", after[1], names{1})
}

// P19.1: the zero Set has none; After takes it, too.
func TestZeroSet(t *testing.T) {
	var s Set
	is(t, "the zero Set", s, nil)
	for _, r := range []int{-1 << 63, -1, 0, 63, 64, 1<<63 - 1} {
		if s.Has(r) {
			t.Errorf("Has(%d)", r)
		}
	}
	after := After(jump(0, num(0), show(1), num(1)), s)
	is(t, "behind the first", after[0], names{1})
	is(t, "behind the second", after[1], nil)
	is(t, "behind the third", after[2], nil)
	if l := After(end(0), s); len(l) != 0 {
		t.Errorf("After of no instruction: %v", l)
	}
}

// P19.1: registers of any numbers, rising, however they came to be there.
func TestNumbers(t *testing.T) {
	all := names{0, 1, 62, 63, 64, 65, 127, 128, 191, 192, 199}
	p := end(199)
	for _, r := range []int{128, 0, 63, 192, 64, 1, 191, 62, 127, 65} {
		p.Insts = append(p.Insts, show(r))
	}
	asks(t, "numbers", of(p), []names{all}, []names{nil})
	asks(t, "numbers", of(jump(1), p), []names{all, all}, []names{all, nil})
	is(t, "behind the first", After(p, Set{})[0], slices.DeleteFunc(slices.Clone(all), func(r int) bool { return r == 128 }))
	_, out, _ := Parts(of(jump(1), p), 1)
	after := After(jump(1, num(128), num(64), num(0)), out[0])
	is(t, "behind all", after[2], all)
	is(t, "without 0", after[1], all[1:])
	is(t, "without 0, 64", after[0], names{1, 62, 63, 65, 127, 128, 191, 192, 199})
	great := api.Code{Fns: []api.Fn{{Regs: api.MaxRegs, Parts: []api.Part{end(api.MaxRegs-1, show(9999))}}}}
	in, _, e := Parts(great, 0)
	if e != api.OK || !slices.Equal(in[0].List(), names{9999, api.MaxRegs - 1}) {
		t.Errorf("great numbers: %v, %d", in, e)
	}
}

// every: each instruction that there is, with the Dst d, reading a, b or both, or these as its Args; and what it reads.
func every(d, a, b int) map[string]struct {
	i     api.Inst
	reads names
} {
	m := map[string]struct {
		i     api.Inst
		reads names
	}{}
	put := func(i api.Inst, reads ...int) {
		slices.Sort(reads)
		m[fmt.Sprint(i)] = struct {
			i     api.Inst
			reads names
		}{i, slices.Compact(reads)}
	}
	for op := api.Add; op <= api.Ne; op++ {
		put(api.Inst{Op: op, Dst: d, A: a, B: b}, a, b)
	}
	for op := api.IMove; op <= api.ICast; op++ {
		put(api.Inst{Op: op, Dst: d, A: a, B: b}, a)
	}
	put(api.Inst{Op: api.IConst, Dst: d, A: a, B: b, Imm: 9})
	put(api.Inst{Op: api.ISlot, Dst: d, A: a, B: b, Imm: 1})
	put(api.Inst{Op: api.IGlobal, Dst: d, A: a, B: b})
	put(api.Inst{Op: api.IIndex, Dst: d, A: a, B: b, Imm: 5}, a, b)
	put(api.Inst{Op: api.IOff, Dst: d, A: a, B: b, Imm: 6}, a)
	put(api.Inst{Op: api.ILoad, Dst: d, A: a, B: b}, a)
	put(api.Inst{Op: api.IStore, Dst: d, A: a, B: b}, a, b)
	put(api.Inst{Op: api.ICall, Dst: d, A: 9, Args: []int{a, b, a}}, a, b)
	put(api.Inst{Op: api.IPrint, Dst: d, A: a, B: b}, a)
	return m
}

// P19.2, P19.3: every instruction reads what it reads, and then writes its Dst, if it has one; also where it reads what it writes.
func TestEachInstruction(t *testing.T) {
	for _, r := range [][3]int{{5, 6, 7}, {6, 6, 7}, {7, 6, 7}, {6, 6, 6}, {5, 6, 6}, {5, 7, 6}} {
		for what, x := range every(r[0], r[1], r[2]) {
			behind := names{r[0], 70}
			before := append(names{70}, x.reads...)
			if !ir.Dst(x.i) {
				before = append(before, r[0])
			}
			slices.Sort(before)
			before = slices.Compact(before)
			c := of(jump(1, x.i), end(70, show(r[0])))
			asks(t, what, c, []names{before, behind}, []names{behind, nil})
			asks(t, what, of(end(70, x.i, show(r[0]))), []names{before}, []names{nil})
			_, out, _ := Parts(c, 1)
			is(t, what, After(c.Fns[1].Parts[0], out[0])[0], behind)
			after := After(jump(1, show(0), x.i), out[0])
			is(t, what, after[0], before)
			is(t, what, after[1], behind)
		}
	}
}

// P19.2: what is read ahead of being written, and behind it.
func TestOrder(t *testing.T) {
	asks(t, "written, read", of(end(1, num(0), show(0))), []names{{1}}, []names{nil})
	asks(t, "read, written", of(end(1, show(0), num(0))), []names{{0, 1}}, []names{nil})
	asks(t, "read, written, read", of(end(1, show(0), num(0), show(0))), []names{{0, 1}}, []names{nil})
	asks(t, "written, read, written", of(end(0, num(0), show(0), num(0))), []names{nil}, []names{nil})
	asks(t, "written by what reads it", of(end(0, add(0, 0, 0))), []names{{0}}, []names{nil})
	asks(t, "written by a call that takes it", of(end(2, call(0, 1, 0, 3))), []names{{0, 1, 2, 3}}, []names{nil})
	asks(t, "in the next part", of(jump(1, num(0)), jump(2, num(1)), end(0, show(1), show(2))), []names{{2}, {0, 2}, {0, 1, 2}}, []names{{0, 2}, {0, 1, 2}, nil})
	after := After(end(2, num(0), show(0), num(0), move(2, 0)), Set{})
	for n, want := range []names{{0}, nil, {0}, {2}} {
		is(t, fmt.Sprint("behind ", n), after[n], want)
	}
}

// P19.2, P19.3: Conds of ends and of branches are read; below 0 there is none.
func TestConds(t *testing.T) {
	asks(t, "an end", of(end(3)), []names{{3}}, []names{nil})
	asks(t, "an end whose Cond is written", of(end(3, num(3))), []names{nil}, []names{nil})
	asks(t, "an end leads nowhere", of(api.Part{End: true, Cond: 3, Next: 1, Else: 1}, end(5)), []names{{3}, {5}}, []names{nil, nil})
	asks(t, "a branch", of(branch(3, 1, 2), end(4), end(5)), []names{{3, 4, 5}, {4}, {5}}, []names{{4, 5}, nil, nil})
	asks(t, "a branch whose Cond is written", of(branch(3, 1, 2, num(3)), end(4), end(5)), []names{{4, 5}, {4}, {5}}, []names{{4, 5}, nil, nil})
	asks(t, "a branch on 0", of(branch(0, 1, 1), end(4)), []names{{0, 4}, {4}}, []names{{4}, nil})
	asks(t, "both ways to one part", of(branch(4, 1, 1, num(4)), end(4)), []names{nil, {4}}, []names{{4}, nil})
	for _, cond := range []int{-1, -64, -1 << 63} {
		asks(t, "no Cond", of(api.Part{Cond: cond, Next: 1, Else: 2}, end(4), end(5)), []names{{4}, {4}, {5}}, []names{{4}, nil, nil})
		asks(t, "no Cond, and no part as Else", of(api.Part{Cond: cond, Next: 1, Else: -9}, end(4)), []names{{4}, {4}}, []names{{4}, nil})
		is(t, "no Cond", After(api.Part{Cond: cond, Insts: list{show(0)}}, Set{})[0], nil)
	}
	is(t, "a branch", After(branch(3, 1, 2, show(0)), Set{})[0], names{3})
	is(t, "an end", After(end(0, show(1)), Set{})[0], names{0})
}

// P19.2: ways that come back, that are never taken, and that nobody begins.
func TestWays(t *testing.T) {
	asks(t, "at itself", of(jump(0, show(1), num(1), add(2, 2, 3))), []names{{1, 2, 3}}, []names{{1, 2, 3}})
	asks(t, "at itself, written first", of(jump(0, num(1), show(1))), []names{nil}, []names{nil})
	asks(t, "at itself, nothing read", of(jump(0, num(1))), []names{nil}, []names{nil})
	asks(t, "at itself and on", of(branch(0, 0, 1, show(1), num(1)), end(2)), []names{{0, 1, 2}, {2}}, []names{{0, 1, 2}, nil})
	asks(t, "a loop", of(jump(1, num(0), num(1)), branch(2, 2, 3), jump(1, add(1, 1, 0), num(2)), end(1)),
		[]names{{2}, {0, 1, 2}, {0, 1}, {1}}, []names{{0, 1, 2}, {0, 1}, {0, 1, 2}, nil})
	asks(t, "a loop without end", of(jump(1), jump(2), jump(0, show(5))), []names{{5}, {5}, {5}}, []names{{5}, {5}, {5}})
	asks(t, "a loop within a loop", of(branch(0, 1, 3), branch(1, 1, 2, num(4), show(4)), jump(0, show(6), num(7)), end(7, show(4))),
		[]names{{0, 1, 4, 6, 7}, {0, 1, 6}, {0, 1, 4, 6}, {4, 7}}, []names{{0, 1, 4, 6, 7}, {0, 1, 4, 6}, {0, 1, 4, 6, 7}, nil})
	asks(t, "parts that nobody reaches", of(end(0), jump(0, show(1)), jump(2, show(3)), branch(4, 1, 2)), []names{{0}, {0, 1}, {3}, {0, 1, 3, 4}}, []names{nil, {0}, {3}, {0, 1, 3}})
	asks(t, "a way that isn't taken", of(branch(0, 1, 2, num(0)), end(1), end(2)), []names{{1, 2}, {1}, {2}}, []names{{1, 2}, nil, nil})
	asks(t, "written on one way", of(branch(0, 1, 2), jump(3, num(5)), jump(3), end(5)), []names{{0, 5}, nil, {5}, {5}}, []names{{5}, {5}, {5}, nil})
	asks(t, "written on both", of(branch(0, 1, 2), jump(3, num(5)), jump(3, num(5)), end(5)), []names{{0}, nil, nil, {5}}, []names{nil, {5}, {5}, nil})
	asks(t, "from the last part to the first", of(end(0), jump(3, show(1)), jump(1, num(1)), jump(0, num(0), show(2))), []names{{0}, {1, 2}, {2}, {2}}, []names{nil, {2}, {1, 2}, {0}})
	asks(t, "far apart", of(branch(0, 1, 2), jump(3, num(5), num(150)), jump(3, num(150)), end(5, show(150), show(100))), []names{{0, 5, 100}, {100}, {5, 100}, {5, 100, 150}}, []names{{5, 100}, {5, 100, 150}, {5, 100, 150}, nil})
}

// P19.2: the first and the last function; parameters are live where they are read, as all others; errors.
func TestFunctions(t *testing.T) {
	c := api.Code{Fns: []api.Fn{
		{Params: 2, Regs: 3, Parts: []api.Part{end(1)}},
		{Params: 1, Regs: 4, Parts: []api.Part{jump(1, num(0)), end(3)}},
		{Regs: 70, Parts: []api.Part{end(69, call(1, 2, 3))}},
	}}
	for fn, want := range [][]names{{{1}}, {{3}, {3}}, {{2, 3, 69}}} {
		in, out, e := Parts(c, fn)
		if e != api.OK || len(in) != len(want) || len(out) != len(want) {
			t.Fatalf("function %d: %d", fn, e)
		}
		for n, l := range want {
			is(t, fmt.Sprint("function ", fn), in[n], l)
		}
	}
	for _, fn := range []int{-1 << 63, -1, 3, 4, 1<<63 - 1} {
		if in, out, e := Parts(c, fn); e != api.ErrNone || len(in) != 0 || len(out) != 0 {
			t.Errorf("function %d: %v, %v, %d", fn, in, out, e)
		}
	}
}

// P19.2, P1: code that isn't right: ir.Valid's error, and nothing beside it, whichever function is asked for.
func TestErrors(t *testing.T) {
	long := api.Code{Fns: []api.Fn{{Regs: 1, Parts: []api.Part{{Insts: make(list, api.MaxInsts), End: true}}}}}
	for what, r := range map[string]struct {
		c api.Code
		e api.Errno
	}{
		"nothing":              {api.Code{}, api.ErrForm},
		"no part":              {of(), api.ErrForm},
		"no such register":     {of(end(0, show(200))), api.ErrForm},
		"registers below 0":    {api.Code{Fns: []api.Fn{{Regs: -1, Parts: []api.Part{jump(0)}}}}, api.ErrForm},
		"no such Cond":         {of(end(200)), api.ErrForm},
		"an end without Cond":  {of(end(-1)), api.ErrForm},
		"no such Next":         {of(jump(1)), api.ErrForm},
		"a Next below 0":       {of(jump(-1)), api.ErrForm},
		"no such Else":         {of(branch(0, 0, 1)), api.ErrForm},
		"too few Args":         {of(end(0, call(0, 1, 2))), api.ErrForm},
		"too long, and no Ops": {long, api.ErrLimit},
	} {
		for _, fn := range []int{-1, 0, 1, 2, 1 << 40} {
			if in, out, e := Parts(r.c, fn); e != r.e || len(in) != 0 || len(out) != 0 {
				t.Errorf("%s, function %d: %v, %v, %d; want %d", what, fn, in, out, e, r.e)
			}
		}
	}
}

// The rule of memory: lists are new; a Set that is handed in is not changed, and what is told hangs on no later write.
func TestMemory(t *testing.T) {
	c := of(jump(1, num(3)), end(2, show(70), show(3)))
	in, out, _ := Parts(c, 1)
	clear(in[1].List())
	clear(out[0].List())
	is(t, "a list was written over", in[1], names{2, 3, 70})
	is(t, "a list was written over", out[0], names{2, 3, 70})
	p := jump(1, num(3), move(70, 4), show(130))
	after := After(p, out[0])
	is(t, "a Set was handed in", out[0], names{2, 3, 70})
	more := After(p, after[1])
	is(t, "an answer was handed in", after[1], names{2, 3, 70, 130})
	is(t, "the answer to that", more[2], names{2, 3, 70, 130})
	is(t, "the answer to that", more[0], names{2, 3, 4, 130})
	p.Insts[2].A, c.Fns[1].Parts[1].Cond, c.Fns[1].Parts[1].Insts[0].A = 5, 6, 7
	is(t, "a part was written over", after[0], names{2, 3, 4, 130})
	is(t, "a part was written over", after[2], names{2, 3, 70})
	is(t, "code was written over", in[1], names{2, 3, 70})
	again, _, _ := Parts(of(jump(1, num(3)), end(2, show(70), show(3))), 1)
	if !reflect.DeepEqual(in, again) {
		t.Errorf("two answers: %v, %v", in, again)
	}
}

package ir

import (
	"fmt"
	"math"
	"math/rand"
	"reflect"
	"slices"
	"testing"

	"burin/api"
)

func valid(t *testing.T, what string, c api.Code, want api.Errno) {
	t.Helper()
	if e := Valid(c); e != want {
		t.Errorf("%s: Valid = %d; want %d", what, e, want)
	}
}

// whole is right code: a function of no parameters and one of two ahead of the last one, which has an instruction of each Op.
func whole() api.Code {
	end := func() []api.Part { return []api.Part{{End: true}} }
	var insts []api.Inst
	for _, r := range table() {
		insts = append(insts, api.Inst{Op: r.op, Type: r.op % 6, Dst: 3, A: 2, B: 1, Imm: 1, Args: []int{0, 3}})
	}
	last := api.Fn{Regs: 4, Slots: []int{3, 1}, Parts: []api.Part{
		{Insts: insts, Cond: 3, Next: 1, Else: 2},
		{Cond: -1, Next: 2},
		{End: true, Cond: 2},
	}}
	return api.Code{
		Globals: []int{2, 1},
		Inits:   []int64{math.MinInt64, math.MaxInt64},
		Fns:     []api.Fn{{Regs: 1, Parts: end()}, {Params: 2, Regs: 2, Parts: end()}, last},
	}
}

// lastOf: the function that has an instruction of each Op; instOf: that of an Op.
func lastOf(c *api.Code) *api.Fn { return &c.Fns[2] }

func instOf(c *api.Code, op byte) *api.Inst {
	l := lastOf(c).Parts[0].Insts
	return &l[slices.IndexFunc(l, func(i api.Inst) bool { return i.Op == op })]
}

// A change to right code, and what Valid tells of it then.
type change struct {
	what string
	do   func(c *api.Code)
	want api.Errno
}

func judge(t *testing.T, changes []change) {
	t.Helper()
	for _, x := range changes {
		c := whole()
		x.do(&c)
		same := Copy(c)
		valid(t, x.what, c, x.want)
		if !reflect.DeepEqual(c, same) {
			t.Errorf("%s: Valid has changed it", x.what)
		}
	}
}

// P13.2: the rules of functions, of Globals and Inits, just within and just beyond.
func TestFunctions(t *testing.T) {
	valid(t, "whole", whole(), api.OK)
	judge(t, []change{
		{"no functions", func(c *api.Code) { c.Fns = nil }, api.ErrForm},
		{"empty functions", func(c *api.Code) { c.Fns = []api.Fn{} }, api.ErrForm},
		{"the last alone, calling none", func(c *api.Code) {
			*instOf(c, api.ICall) = api.Inst{Op: api.IMove}
			c.Fns = c.Fns[2:]
		}, api.OK},
		{"the last alone, calling", func(c *api.Code) { c.Fns = c.Fns[2:] }, api.ErrForm},
		{"the last one with a parameter", func(c *api.Code) { lastOf(c).Params = 1 }, api.ErrForm},
		{"the last one with two", func(c *api.Code) { c.Fns = c.Fns[:2] }, api.ErrForm},
		{"parameters below 0", func(c *api.Code) { c.Fns[0].Params = -1 }, api.ErrForm},
		{"the last one's below 0", func(c *api.Code) { lastOf(c).Params = -1 }, api.ErrForm},
		{"the least parameters", func(c *api.Code) { c.Fns[0].Params = math.MinInt }, api.ErrForm},
		{"as many parameters as registers", func(c *api.Code) { c.Fns[0].Params = 1 }, api.OK},
		{"one more", func(c *api.Code) { c.Fns[0].Params = 2 }, api.ErrForm},
		{"the most parameters", func(c *api.Code) { c.Fns[0].Params = math.MaxInt }, api.ErrForm},
		{"eight parameters", func(c *api.Code) { c.Fns[0].Params, c.Fns[0].Regs = 8, 8 }, api.OK},
		{"nine", func(c *api.Code) { c.Fns[0].Params, c.Fns[0].Regs = 9, 9 }, api.OK},
		{"MaxRegs", func(c *api.Code) { c.Fns[0].Regs = api.MaxRegs }, api.OK},
		{"one more", func(c *api.Code) { c.Fns[0].Regs = api.MaxRegs + 1 }, api.ErrForm},
		{"MaxRegs of the last one", func(c *api.Code) { lastOf(c).Regs = api.MaxRegs }, api.OK},
		{"one more", func(c *api.Code) { lastOf(c).Regs = api.MaxRegs + 1 }, api.ErrForm},
		{"the most registers", func(c *api.Code) { c.Fns[0].Regs = math.MaxInt }, api.ErrForm},
		{"MaxRegs parameters", func(c *api.Code) { c.Fns[0].Params, c.Fns[0].Regs = api.MaxRegs, api.MaxRegs }, api.OK},
		{"registers below 0", func(c *api.Code) { c.Fns[0] = api.Fn{Regs: -1, Parts: []api.Part{{Cond: -1}}} }, api.ErrForm},
		{"registers and parameters below 0", func(c *api.Code) { c.Fns[0] = api.Fn{Params: -1, Regs: -1, Parts: []api.Part{{Cond: -1}}} }, api.ErrForm},
		{"no registers", func(c *api.Code) { c.Fns[0] = api.Fn{Parts: []api.Part{{Cond: -1}}} }, api.OK},
		{"no registers, but an End", func(c *api.Code) { c.Fns[0] = api.Fn{Parts: []api.Part{{End: true}}} }, api.ErrForm},
		{"no parts", func(c *api.Code) { c.Fns[0].Parts = nil }, api.ErrForm},
		{"no parts of the last one", func(c *api.Code) { lastOf(c).Parts = nil }, api.ErrForm},
		{"empty parts", func(c *api.Code) { c.Fns[1].Parts = []api.Part{} }, api.ErrForm},
		{"more Inits", func(c *api.Code) { c.Inits = make([]int64, 3) }, api.ErrForm},
		{"fewer Inits", func(c *api.Code) { c.Inits = c.Inits[:1] }, api.ErrForm},
		{"no Inits", func(c *api.Code) { c.Inits = nil }, api.ErrForm},
		{"one global more", func(c *api.Code) { c.Globals = append(c.Globals, 1) }, api.ErrForm},
		{"both more", func(c *api.Code) { c.Globals, c.Inits = append(c.Globals, 1), append(c.Inits, 1) }, api.OK},
		{"both none", func(c *api.Code) {
			c.Globals, c.Inits = nil, nil
			*instOf(c, api.IGlobal) = api.Inst{Op: api.IMove}
		}, api.OK},
	})
}

// P13.2: the cells of Globals and of Slots: one each at least, MaxCells together at most.
func TestCells(t *testing.T) {
	ones := make([]int, api.MaxCells+1)
	for i := range ones {
		ones[i] = 1
	}
	for _, r := range []struct {
		cells []int
		want  api.Errno
	}{
		{[]int{1, 1}, api.OK},
		{[]int{1, 0}, api.ErrForm},
		{[]int{0, 1}, api.ErrForm},
		{[]int{1, -1}, api.ErrForm},
		{[]int{-1, 1}, api.ErrForm},
		{[]int{math.MinInt, 1}, api.ErrForm},
		{[]int{api.MaxCells - 1, 1}, api.OK},
		{[]int{1, api.MaxCells - 1}, api.OK},
		{[]int{api.MaxCells, 1}, api.ErrForm},
		{[]int{1, api.MaxCells}, api.ErrForm},
		{[]int{api.MaxCells + 2, -1}, api.ErrForm},
		{[]int{-1, api.MaxCells}, api.ErrForm},
		{[]int{api.MaxCells / 2, api.MaxCells / 2}, api.OK},
		{[]int{api.MaxCells / 2, api.MaxCells/2 + 1}, api.ErrForm},
		{[]int{api.MaxCells, api.MaxCells}, api.ErrForm},
		{[]int{math.MaxInt, math.MaxInt, 2, 1}, api.ErrForm},
		{[]int{1, math.MaxInt}, api.ErrForm},
		{[]int{math.MaxInt/2 + 1, math.MaxInt/2 + 1, 1}, api.ErrForm},
		{[]int{3, 4, 5, 6, 7}, api.OK},
		{[]int{3, 4, 5, 6, 0}, api.ErrForm},
		{ones[:api.MaxCells], api.OK},
		{ones, api.ErrForm},
	} {
		what := fmt.Sprintf("%.60v", fmt.Sprint(r.cells))
		judge(t, []change{
			{"globals " + what, func(c *api.Code) { c.Globals, c.Inits = r.cells, make([]int64, len(r.cells)) }, r.want},
			{"slots " + what, func(c *api.Code) { lastOf(c).Slots = r.cells }, r.want},
			{"slots of the first one " + what, func(c *api.Code) { c.Fns[0].Slots = r.cells }, r.want},
		})
	}
	judge(t, []change{
		{"MaxCells of each", func(c *api.Code) {
			c.Globals[0] = api.MaxCells - 1
			c.Fns[0].Slots = []int{api.MaxCells}
			c.Fns[1].Slots = []int{api.MaxCells}
			lastOf(c).Slots[0] = api.MaxCells - 1
		}, api.OK},
		{"one slot of MaxCells", func(c *api.Code) { c.Fns[0].Slots = []int{api.MaxCells} }, api.OK},
		{"and one more", func(c *api.Code) { c.Fns[0].Slots = []int{api.MaxCells + 1} }, api.ErrForm},
	})
}

// edges: numbers about the first and the last of some that are right, and the greatest and least.
func edges(many int) []int {
	return []int{math.MinInt, -many, -2, -1, 0, 1, many - 1, many, many + 1, math.MaxInt}
}

func errorIf(wrong bool) api.Errno {
	if wrong {
		return api.ErrForm
	}
	return api.OK
}

// P13.2: of every Op each register that it reads or writes is one of the function's; the others aren't looked at.
func TestRegisters(t *testing.T) {
	for _, r := range table() {
		for _, reg := range edges(4) {
			bad := reg < 0 || reg >= 4
			reads := func(letter string) bool {
				return len(r.reads) > 0 && (r.reads == letter || r.reads == "ab" && letter != "c")
			}
			what := fmt.Sprintf("Op %d, %d as ", r.op, reg)
			judge(t, []change{
				{what + "Dst", func(c *api.Code) { instOf(c, r.op).Dst = reg }, errorIf(bad && r.dst)},
				{what + "A", func(c *api.Code) { instOf(c, r.op).A = reg }, errorIf(bad && reads("a"))},
				{what + "B", func(c *api.Code) { instOf(c, r.op).B = reg }, errorIf(bad && reads("b"))},
				{what + "the first of the Args", func(c *api.Code) { instOf(c, r.op).Args[0] = reg }, errorIf(bad && reads("c"))},
				{what + "the last of the Args", func(c *api.Code) { instOf(c, r.op).Args[1] = reg }, errorIf(bad && reads("c"))},
			})
		}
		for _, args := range [][]int{nil, {}, {1}, {1, 2, 3}, {1, 2, 3, 0, 0, 0, 0, 0, 0}} {
			what := fmt.Sprintf("Op %d with the Args %v", r.op, args)
			judge(t, []change{{what, func(c *api.Code) { instOf(c, r.op).Args = args }, errorIf(r.reads == "c")}})
		}
	}
}

// P13.2: every Op and every Type, of each instruction.
func TestOpsAndTypes(t *testing.T) {
	for op := range 256 {
		c := api.Code{Globals: []int{1}, Inits: []int64{0}, Fns: []api.Fn{
			{Regs: 1, Parts: []api.Part{{End: true}}},
			{Regs: 1, Slots: []int{1}, Parts: []api.Part{{Insts: []api.Inst{{Op: byte(op)}}, End: true}}},
		}}
		if byte(op) == api.IIndex {
			c.Fns[1].Parts[0].Insts[0].Imm = 1
		}
		known := rowOf(byte(op)).op != 0
		valid(t, fmt.Sprintf("Op %d", op), c, errorIf(!known))
		for typ := range 256 {
			c.Fns[1].Parts[0].Insts[0].Type = byte(typ)
			valid(t, fmt.Sprintf("Op %d, Type %d", op, typ), c, errorIf(!known || typ > 5))
		}
	}
}

// P13.2: Imm of each Op that looks at it, and of each that doesn't.
func TestImm(t *testing.T) {
	numbers := []int64{math.MinInt64, -1 << 32, -2, -1, 0, 1, 2, 3, api.MaxCells - 1, api.MaxCells, api.MaxCells + 1, 1 << 32, 1<<32 + 1, math.MaxInt64}
	for _, r := range table() {
		for _, n := range numbers {
			ok := true
			switch r.op {
			case api.ISlot, api.IGlobal:
				ok = n == 0 || n == 1
			case api.IIndex:
				ok = n >= 1 && n <= 65536
			case api.IOff:
				ok = n >= 0 && n <= 65535
			case api.ICall:
				ok = n == 1 // the first has no parameters, and gets two; the third is this one itself
			}
			judge(t, []change{{fmt.Sprintf("Op %d with Imm %d", r.op, n), func(c *api.Code) { instOf(c, r.op).Imm = n }, errorIf(!ok)}})
		}
	}
	judge(t, []change{
		{"a slot of a function that has none", func(c *api.Code) {
			c.Fns[0].Parts[0].Insts = []api.Inst{{Op: api.ISlot}}
		}, api.ErrForm},
		{"the first slot", func(c *api.Code) {
			c.Fns[0].Parts[0].Insts = []api.Inst{{Op: api.ISlot}}
			c.Fns[0].Slots = []int{1}
		}, api.OK},
		{"no globals", func(c *api.Code) {
			c.Globals, c.Inits = nil, nil
			instOf(c, api.IGlobal).Imm = 0
		}, api.ErrForm},
	})
}

// P13.2: a call is of a function ahead, with as many Args as it has parameters.
func TestCalls(t *testing.T) {
	call := func(fn int64, args ...int) []api.Inst { return []api.Inst{{Op: api.ICall, Imm: fn, Args: args}} }
	judge(t, []change{
		{"the first, of none", func(c *api.Code) { lastOf(c).Parts[1].Insts = call(0) }, api.OK},
		{"the first, of one", func(c *api.Code) { lastOf(c).Parts[1].Insts = call(0, 1) }, api.ErrForm},
		{"the second, of two", func(c *api.Code) { lastOf(c).Parts[1].Insts = call(1, 1, 1) }, api.OK},
		{"the second, of one", func(c *api.Code) { lastOf(c).Parts[1].Insts = call(1, 1) }, api.ErrForm},
		{"the second, of three", func(c *api.Code) { lastOf(c).Parts[1].Insts = call(1, 1, 1, 1) }, api.ErrForm},
		{"the second, of none", func(c *api.Code) { lastOf(c).Parts[1].Insts = call(1) }, api.ErrForm},
		{"itself", func(c *api.Code) { lastOf(c).Parts[1].Insts = call(2) }, api.ErrForm},
		{"none", func(c *api.Code) { lastOf(c).Parts[1].Insts = call(3) }, api.ErrForm},
		{"below 0", func(c *api.Code) { lastOf(c).Parts[1].Insts = call(-1) }, api.ErrForm},
		{"by the first, itself", func(c *api.Code) { c.Fns[0].Parts[0].Insts = call(0) }, api.ErrForm},
		{"by the first, one behind it", func(c *api.Code) { c.Fns[0].Parts[0].Insts = call(1, 0, 0) }, api.ErrForm},
		{"by the second, the first", func(c *api.Code) { c.Fns[1].Parts[0].Insts = call(0) }, api.OK},
		{"by the second, itself", func(c *api.Code) { c.Fns[1].Parts[0].Insts = call(1, 0, 0) }, api.ErrForm},
		{"by the second, the last", func(c *api.Code) { c.Fns[1].Parts[0].Insts = call(2) }, api.ErrForm},
	})
	many := make([]int, api.MaxRegs)
	judge(t, []change{{"MaxRegs Args", func(c *api.Code) {
		c.Fns[0].Params, c.Fns[0].Regs = api.MaxRegs, api.MaxRegs
		lastOf(c).Parts[1].Insts = call(0, many...)
	}, api.OK}, {"one fewer", func(c *api.Code) {
		c.Fns[0].Params, c.Fns[0].Regs = api.MaxRegs, api.MaxRegs
		lastOf(c).Parts[1].Insts = call(0, many[1:]...)
	}, api.ErrForm}})
}

// P13.2: how parts end: the fields that are looked at, and those that are not.
func TestEnds(t *testing.T) {
	set := func(p api.Part) func(c *api.Code) { return func(c *api.Code) { lastOf(c).Parts[1] = p } }
	for _, n := range edges(3) {
		part := n >= 0 && n < 3
		judge(t, []change{
			{fmt.Sprint("a jump to ", n), set(api.Part{Cond: -1, Next: n, Else: 99}), errorIf(!part)},
			{fmt.Sprint("a branch, Next ", n), set(api.Part{Cond: 0, Next: n, Else: 2}), errorIf(!part)},
			{fmt.Sprint("a branch, Else ", n), set(api.Part{Cond: 3, Next: 2, Else: n}), errorIf(!part)},
			{fmt.Sprint("a jump, Else ", n), set(api.Part{Cond: -1, Next: 2, Else: n}), api.OK},
			{fmt.Sprint("an End, Next and Else ", n), set(api.Part{End: true, Cond: 1, Next: n, Else: n}), api.OK},
		})
	}
	for _, n := range edges(4) {
		judge(t, []change{
			{fmt.Sprint("an End with Cond ", n), set(api.Part{End: true, Cond: n}), errorIf(n < 0 || n > 3)},
			{fmt.Sprint("a branch with Cond ", n), set(api.Part{Cond: n, Next: 1, Else: 1}), errorIf(n > 3)},
			{fmt.Sprint("Cond ", n, " and no Else"), set(api.Part{Cond: n, Next: 1, Else: -1}), errorIf(n >= 0)},
			{fmt.Sprint("Cond ", n, " and no Next"), set(api.Part{Cond: n, Next: 3, Else: 1}), api.ErrForm},
		})
	}
}

// long: so many instructions and parts, in functions of one part of so many each.
func long(functions, instructions int) api.Code {
	insts := make([]api.Inst, instructions)
	for i := range insts {
		insts[i] = api.Inst{Op: api.IConst}
	}
	c := api.Code{}
	for range functions {
		c.Fns = append(c.Fns, api.Fn{Regs: 1, Parts: []api.Part{{Insts: insts, End: true}}})
	}
	return c
}

// P13.2: MaxInsts instructions and parts, and one more; which error is told where two apply.
func TestMaxInsts(t *testing.T) {
	for _, functions := range []int{1, 2, 3, 100, api.MaxInsts / 2, api.MaxInsts} {
		c := long(functions, api.MaxInsts/functions-1)
		if n := Count(c); n != api.MaxInsts {
			t.Fatalf("Count = %d", n)
		}
		valid(t, "MaxInsts", c, api.OK)
		more := Copy(c)
		p := &more.Fns[functions/2].Parts[0]
		p.Insts = append(p.Insts, api.Inst{Op: api.IConst})
		valid(t, "one instruction more", more, api.ErrLimit)
		more = Copy(c)
		f := &more.Fns[functions/2]
		f.Parts = append(f.Parts, api.Part{End: true})
		valid(t, "one part more", more, api.ErrLimit)
		more.Fns = append(more.Fns, long(1, 0).Fns...)
		valid(t, "and a function more", more, api.ErrLimit)

		wrong := Copy(c)
		wrong.Fns[functions-1].Parts[0].Cond = 1
		valid(t, "wrong, at MaxInsts", wrong, api.ErrForm)
		f = &wrong.Fns[0]
		f.Parts = append(f.Parts, api.Part{End: true})
		valid(t, "wrong, and one more", wrong, api.ErrLimit)
	}
	parts := make([]api.Part, api.MaxInsts+1)
	for i := range parts {
		parts[i] = api.Part{Cond: -1, Next: i}
	}
	valid(t, "parts alone", api.Code{Fns: []api.Fn{{Parts: parts[1:]}}}, api.ErrForm) // the last leads behind the last
	parts[api.MaxInsts].Next = 0
	valid(t, "parts alone", api.Code{Fns: []api.Fn{{Parts: parts[1:]}}}, api.OK)
	valid(t, "one part more", api.Code{Fns: []api.Fn{{Parts: parts}}}, api.ErrLimit)
	for what, change := range map[string]func(c *api.Code){
		"no Inits":         func(c *api.Code) { c.Globals = []int{1} },
		"a great global":   func(c *api.Code) { c.Globals, c.Inits = []int{api.MaxCells + 1}, []int64{0} },
		"no part":          func(c *api.Code) { c.Fns = append([]api.Fn{{}}, c.Fns...) },
		"a last parameter": func(c *api.Code) { c.Fns[0].Params = 1 },
		"no such Op":       func(c *api.Code) { c.Fns[0].Parts[0].Insts[0].Op = 0 },
		"too many Regs":    func(c *api.Code) { c.Fns[0].Regs = api.MaxRegs + 1 },
	} {
		c := long(1, api.MaxInsts-1)
		change(&c)
		valid(t, what, c, api.ErrForm)
		c.Fns[len(c.Fns)-1].Parts = append(c.Fns[len(c.Fns)-1].Parts, api.Part{End: true})
		valid(t, what+", and one part more", c, api.ErrLimit)
	}
	valid(t, "many functions without parts", api.Code{Fns: make([]api.Fn, 3*api.MaxInsts)}, api.ErrForm)
}

// breakOne changes one number of code, to one that may be right or not.
func breakOne(r *rand.Rand, c *api.Code) {
	n := r.Intn(9) - 2
	if r.Intn(10) == 0 {
		n = []int{math.MinInt, math.MaxInt, api.MaxCells - 1, api.MaxCells, api.MaxRegs, api.MaxRegs + 1}[r.Intn(6)]
	}
	f := &c.Fns[r.Intn(len(c.Fns))]
	p := &f.Parts[r.Intn(len(f.Parts))]
	targets := []*int{&f.Params, &f.Regs, &p.Cond, &p.Next, &p.Else, &c.Globals[r.Intn(2)]}
	if len(f.Slots) > 0 {
		targets = append(targets, &f.Slots[r.Intn(len(f.Slots))])
	}
	if len(p.Insts) > 0 {
		i := &p.Insts[r.Intn(len(p.Insts))]
		targets = append(targets, &i.Dst, &i.A, &i.B, &i.Args[r.Intn(2)])
		switch r.Intn(4) {
		case 0:
			i.Imm = int64(n)
		case 1:
			i.Op = byte(r.Intn(36))
		case 2:
			i.Type = byte(r.Intn(8))
		}
	}
	*targets[r.Intn(len(targets))] = n
	p.End = p.End != (r.Intn(8) == 0)
}

// told asks the rules of right code a second way: by a list of what is broken, read off the chapter.
func told(c api.Code) (wrong []string) {
	rule := func(holds bool, what string) {
		if !holds {
			wrong = append(wrong, what)
		}
	}
	in := func(n, low, high int) bool { return n >= low && n <= high }
	cells := func(l []int) {
		sum := 0.0
		for _, n := range l {
			rule(n >= 1, "a cell each at least")
			sum += float64(n)
		}
		rule(sum <= 65536, "MaxCells together at most")
	}
	rule(len(c.Inits) == len(c.Globals), "Inits as many as Globals")
	cells(c.Globals)
	rule(len(c.Fns) > 0, "there is a function")
	for number, f := range c.Fns {
		rule(number+1 < len(c.Fns) || f.Params == 0, "the last one has no parameters")
		rule(in(f.Params, 0, f.Regs), "0 to Regs parameters")
		rule(f.Regs <= 20000, "at most MaxRegs registers")
		rule(len(f.Parts) > 0, "a part")
		cells(f.Slots)
		for _, p := range f.Parts {
			for _, i := range p.Insts {
				r := rowOf(i.Op)
				rule(r.op != 0, "one of the table's")
				rule(i.Type <= 5, "one of the six")
				rule(!r.dst || in(i.Dst, 0, f.Regs-1), "the register that it writes")
				for _, u := range r.uses(i) {
					rule(in(u, 0, f.Regs-1), "the registers that it reads")
				}
				n := int(i.Imm)
				switch i.Op {
				case 26:
					rule(in(n, 0, len(f.Slots)-1), "a slot")
				case 27:
					rule(in(n, 0, len(c.Globals)-1), "a global")
				case 28:
					rule(in(n, 1, 65536), "1 to MaxCells")
				case 29:
					rule(in(n, 0, 65535), "0 to MaxCells - 1")
				case 32:
					rule(in(n, 0, number-1), "a function ahead")
					rule(!in(n, 0, number-1) || len(i.Args) == c.Fns[n].Params, "as many Args")
				}
			}
			rule(!p.End || in(p.Cond, 0, f.Regs-1), "a register as Cond")
			rule(p.End || in(p.Next, 0, len(f.Parts)-1), "a part as Next")
			rule(p.End || p.Cond < 0 || in(p.Cond, 0, f.Regs-1) && in(p.Else, 0, len(f.Parts)-1), "a register and a part as Else")
		}
	}
	return wrong
}

// P13.2, P2: code with one or more numbers changed, held against the rules asked a second way; twice the same answer.
func TestAgainstRules(t *testing.T) {
	r := rand.New(rand.NewSource(13))
	broken := map[string]int{}
	good := 0
	for range 60000 {
		c := whole()
		for range 1 + r.Intn(2) {
			breakOne(r, &c)
		}
		wrong := told(c)
		if e := Valid(c); e != errorIf(len(wrong) > 0) || e != Valid(c) {
			t.Fatalf("Valid(%v) = %d; broken: %v", c, e, wrong)
		}
		if len(wrong) == 0 {
			good++
		} else if len(wrong) == 1 {
			broken[wrong[0]]++
		}
	}
	if good < 1000 || len(broken) < 12 {
		t.Errorf("%d right ones; broken alone: %v", good, broken)
	}
}

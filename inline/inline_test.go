package inline

import (
	"fmt"
	"reflect"
	"slices"
	"testing"

	"burin/api"
	"burin/ir"
	"burin/run"
)

// The signature that the chapter lists.
var _ func(api.Code, bool) (api.Code, api.Errno) = Run

// Instructions by short names.
func num(dst int, n int64) api.Inst { return api.Inst{Op: api.IConst, Dst: dst, Imm: n} }
func move(dst, a int) api.Inst      { return api.Inst{Op: api.IMove, Dst: dst, A: a} }
func show(a int) api.Inst           { return api.Inst{Op: api.IPrint, A: a} }
func add(dst, a, b int) api.Inst    { return api.Inst{Op: api.Add, Type: api.I32, Dst: dst, A: a, B: b} }
func sub(dst, a, b int) api.Inst    { return api.Inst{Op: api.Sub, Type: api.I32, Dst: dst, A: a, B: b} }
func less(dst, a, b int) api.Inst   { return api.Inst{Op: api.Lt, Type: api.I32, Dst: dst, A: a, B: b} }
func call(dst int, fn int64, a ...int) api.Inst {
	return api.Inst{Op: api.ICall, Dst: dst, Imm: fn, Args: a}
}

// Parts by how they end.
func end(cond int, insts ...api.Inst) api.Part { return api.Part{Insts: insts, End: true, Cond: cond} }
func jump(to int, insts ...api.Inst) api.Part  { return api.Part{Insts: insts, Cond: -1, Next: to} }
func branch(cond, to, other int, insts ...api.Inst) api.Part {
	return api.Part{Insts: insts, Cond: cond, Next: to, Else: other}
}

type parts = []api.Part

func fn(params, regs int, p ...api.Part) api.Fn { return api.Fn{Params: params, Regs: regs, Parts: p} }
func of(fns ...api.Fn) api.Code                 { return api.Code{Fns: fns} }

// minus answers the first number without the second.
func minus() api.Fn { return fn(2, 3, end(2, sub(2, 0, 1))) }

// left: how many ICalls of a function are left in another one.
func left(c api.Code, in int, callee int64) int {
	many := 0
	for _, p := range c.Fns[in].Parts {
		for _, i := range p.Insts {
			if i.Op == api.ICall && i.Imm == callee {
				many++
			}
		}
	}
	return many
}

// made: what Run makes of right code: right code, with as many functions, with as many parameters.
func made(t *testing.T, what string, c api.Code, fault bool) api.Code {
	t.Helper()
	d, e := Run(c, fault)
	if e != api.OK || ir.Valid(d) != api.OK || len(d.Fns) != len(c.Fns) {
		t.Fatalf("%s: Run: %d, Valid %d, %d functions", what, e, ir.Valid(d), len(d.Fns))
	}
	for n, f := range d.Fns {
		if f.Params != c.Fns[n].Params {
			t.Fatalf("%s: function %d has %d parameters", what, n, f.Params)
		}
	}
	return d
}

func outcome(t *testing.T, what string, c api.Code, fuel int) api.Outcome {
	t.Helper()
	o, e := run.Run(c, fuel)
	if e != api.OK {
		t.Fatalf("%s: run.Run: %d", what, e)
	}
	return o
}

// same asks that what becomes of code does what that does, within the steps that the chapter tells; it may trap as well.
func same(t *testing.T, what string, c api.Code) api.Code {
	t.Helper()
	d := made(t, what, c, false)
	want := outcome(t, what, c, 40000)
	got := outcome(t, what, d, min(200+200*want.Steps, api.MaxFuel))
	if want.Fuel || got.Halted != want.Halted || got.Exit != want.Exit || got.Trap != want.Trap || got.Fuel || !slices.Equal(got.Trace, want.Trace) {
		t.Errorf("%s: %+v; want %+v", what, got, want)
	}
	return d
}

// gone asks for the same, and that no call is left in any function.
func gone(t *testing.T, what string, c api.Code) api.Code {
	t.Helper()
	d := same(t, what, c)
	for n := range d.Fns {
		for callee := range d.Fns {
			if many := left(d, n, int64(callee)); many > 0 {
				t.Errorf("%s: %d calls of %d are left in %d", what, many, callee, n)
			}
		}
	}
	return d
}

// prints asks for all that, and for what is printed, without the fault and with it.
func prints(t *testing.T, what string, c api.Code, want, faulty []int64) {
	t.Helper()
	gone(t, what, c)
	for fault, trace := range map[bool][]int64{false: want, true: faulty} {
		if o := outcome(t, what, made(t, what, c, fault), 9999); !o.Halted || !slices.Equal(o.Trace, trace) {
			t.Errorf("%s, fault %v: %+v; want %v", what, fault, o, trace)
		}
	}
}

// The chapter's example.
func TestExample(t *testing.T) {
	c := of(minus(), fn(0, 3, end(2, num(0, 5), num(1, 3), call(2, 0, 0, 1), show(2))))
	prints(t, "the example", c, []int64{2}, []int64{-2})
	for fault, want := range map[bool]int64{false: 2, true: -2} {
		if o := outcome(t, "the example", made(t, "the example", c, fault), 99); o.Exit != want {
			t.Errorf("fault %v: Exit %d", fault, o.Exit)
		}
	}
}

// nothings: so many instructions that write a register.
func nothings(many, register int) []api.Inst {
	return slices.Repeat([]api.Inst{num(register, 7)}, many)
}

// calling: main with a call of the function ahead of it, with 3 for each parameter; what it answers is printed.
func calling(f ...api.Fn) api.Code {
	last := len(f) - 1
	return of(append(f, fn(0, 2, end(1, num(0, 3), call(1, int64(last), slices.Repeat([]int{0}, f[last].Params)...), show(1))))...)
}

// P22.1: which functions are small: just within each bound, and one beyond, where it is free.
func TestSmall(t *testing.T) {
	empty := func(many int) parts {
		p := make(parts, many)
		for n := range p {
			p[n] = jump(n + 1)
		}
		return append(p, end(0))
	}
	fits := map[string]api.Fn{
		"9 instructions and a part":  fn(0, 1, end(0, nothings(9, 0)...)),
		"10 parts":                   fn(0, 1, empty(9)...),
		"4 instructions and 6 parts": fn(1, 1, append(parts{jump(1, nothings(4, 0)...)}, empty(5)[1:]...)...),
		"a part alone":               fn(0, 1, end(0)),
		"20 registers":               fn(0, 20, end(19, num(18, 5), add(19, 18, 0))),
		"20 parameters":              fn(20, 20, end(19, add(19, 18, 0))),
	}
	for what, f := range fits {
		gone(t, what, calling(f))
	}
	slots := fn(0, 2, end(1, api.Inst{Op: api.ISlot}, api.Inst{Op: api.ILoad, Dst: 1}))
	slots.Slots = []int{1}
	noAddress := fn(0, 1, end(0))
	noAddress.Slots = []int{3, 2}
	for what, f := range map[string]api.Fn{
		"10 instructions and a part": fn(0, 1, end(0, nothings(10, 0)...)),
		"11 parts":                   fn(0, 1, empty(10)...),
		"21 registers":               fn(0, 21, end(20, num(20, 5))),
		"21 parameters":              fn(21, 21, end(20)),
		"slots":                      slots,
		"slots that nobody needs":    noAddress,
	} {
		same(t, what, calling(f))
	}
}

// P22.1: a function with a call isn't one whose calls must be gone; but the call in it is.
func TestCallOfCall(t *testing.T) {
	inner := fn(1, 2, end(1, num(1, 1), add(1, 1, 0)))
	outer := fn(1, 2, end(1, call(1, 0, 0), show(1)))
	d := same(t, "a call of a call", calling(inner, outer))
	if left(d, 1, 0) > 0 {
		t.Error("the inner call is left")
	}
	again := gone(t, "a call of a call, for the second time", d)
	same(t, "a call of a call, for the third time", again)
	twice := of(inner, outer, fn(0, 2, end(1, num(0, 3), call(1, 1, 0), call(0, 0, 1), show(0), call(0, 1, 0), show(0))))
	if d := same(t, "both, in turn", twice); left(d, 1, 0)+left(d, 2, 0) > 0 {
		t.Error("an inner call is left")
	}
	slots := outer
	slots.Slots = []int{2}
	d = same(t, "a call in a function with slots", calling(inner, slots))
	if left(d, 1, 0) > 0 || !reflect.DeepEqual(d.Fns[1].Slots, slots.Slots) {
		t.Error("the call is left, or a slot isn't")
	}
}

// P22.1: in which functions calls are gone: just within each bound, and one beyond, where it is free.
func TestCallers(t *testing.T) {
	five := fn(0, 1, end(0, num(0, 5)))
	many := func(calls int) api.Fn {
		f := fn(0, 2, end(0))
		for range calls {
			f.Parts[0].Insts = append(f.Parts[0].Insts, call(1, 0), add(0, 0, 1), show(0))
		}
		return f
	}
	long := func(many int) api.Fn {
		f := fn(0, 1)
		for n := range many - 1 {
			f.Parts = append(f.Parts, jump(n+1))
		}
		f.Parts = append(f.Parts, end(0, show(0)))
		f.Parts[many/2].Insts = []api.Inst{call(0, 0)}
		return f
	}
	wide := func(regs int) api.Fn { return fn(0, regs, end(regs-1, call(regs-1, 0), show(regs-1))) }
	gone(t, "10 ICalls", of(five, many(10)))
	same(t, "11 ICalls", of(five, many(11)))
	gone(t, "100 parts", of(five, long(100)))
	same(t, "101 parts", of(five, long(101)))
	gone(t, "1000 registers", of(five, wide(1000)))
	same(t, "1001 registers", of(five, wide(1001)))
	gone(t, "10 ICalls in a function, 10 in another one", of(five, many(10), many(10)))
	if d := same(t, "11 ICalls in a function, 10 in another one", of(five, many(11), many(10))); left(d, 2, 0) > 0 {
		t.Error("a call is left, as there are too many elsewhere")
	}
	other := fn(0, 1, end(0, nothings(30, 0)...))
	mixed := fn(0, 2, end(0))
	for n := range 10 {
		mixed.Parts[0].Insts = append(mixed.Parts[0].Insts, call(1, int64(n%2)), show(1))
	}
	if d := same(t, "5 ICalls of a small one, 5 of another one", of(five, other, mixed)); left(d, 2, 0) > 0 {
		t.Error("a call is left")
	}
}

// P22.1: in which code calls are gone: just within each bound, and one beyond, where it is free.
func TestCode(t *testing.T) {
	five := fn(0, 1, end(0, num(0, 5)))
	fns := func(many int) api.Code {
		l := []api.Fn{five}
		for range many - 1 {
			l = append(l, fn(0, 1, end(0, call(0, 0), show(0))))
		}
		return of(l...)
	}
	gone(t, "20 functions", fns(20))
	same(t, "21 functions", fns(21))
	long := func(count int) api.Code {
		c := of(five, fn(0, 1, end(0)), fn(0, 1, end(0, call(0, 0), show(0))))
		c.Fns[1].Parts[0].Insts = nothings(count-ir.Count(c), 0)
		return c
	}
	if c := long(10000); ir.Count(c) != 10000 {
		t.Fatalf("Count = %d", ir.Count(c))
	}
	gone(t, "10000 instructions and parts", long(10000))
	same(t, "10001 instructions and parts", long(10001))
}

// P22.1: what is answered stays within the limits of code, however many calls there are and however much each takes.
func TestLimits(t *testing.T) {
	big := fn(20, 20)
	for n := range 10 {
		big.Parts = append(big.Parts, branch(n, n, (n+1)%10))
	}
	big.Parts[9] = end(19)
	args := slices.Repeat([]int{999}, 20)
	full := fn(0, 1000)
	for n := range 99 {
		full.Parts = append(full.Parts, jump(n+1))
	}
	full.Parts = append(full.Parts, end(0))
	full.Parts[50].Insts = append(full.Parts[50].Insts, num(999, 0))
	for range 10 {
		full.Parts[50].Insts = append(full.Parts[50].Insts, call(999, 0, args...))
	}
	fns := []api.Fn{big}
	for range 19 {
		f := full
		f.Parts = slices.Clone(full.Parts)
		f.Parts[99].Insts = nothings(10000/19-120, 0)
		fns = append(fns, f)
	}
	c := of(fns...)
	if n := ir.Count(c); n > 10000 || n < 9000 {
		t.Fatalf("Count = %d", n)
	}
	gone(t, "as many calls as there may be", c)
	whole := of(minus(), fn(0, api.MaxRegs, end(0, slices.Repeat([]api.Inst{call(0, 0, 1, 2)}, api.MaxInsts-4)...)))
	whole.Fns[1].Parts = append(whole.Fns[1].Parts, end(0))
	if n := ir.Count(whole); n != api.MaxInsts {
		t.Fatalf("Count = %d", n)
	}
	made(t, "as much code as there may be", whole, false)
	made(t, "as much code as there may be, with the fault", whole, true)
	fns = []api.Fn{big}
	for ir.Count(of(fns...)) < api.MaxInsts-12 {
		fns = append(fns, fn(0, 1, end(0, slices.Repeat([]api.Inst{call(0, 0, make([]int, 20)...)}, 10)...)))
	}
	made(t, "so in many functions", of(fns...), false)
	made(t, "so in many functions, with the fault", of(fns...), true)
	long := []api.Fn{big, fns[1], fn(0, 1, end(0))}
	long[2].Parts[0].Insts = nothings(api.MaxInsts-ir.Count(of(long...)), 0)
	made(t, "so in few, one of which is long", of(long...), false)
	d := same(t, "21 functions, all of whose calls would grow", of(append(slices.Repeat([]api.Fn{fn(0, 1, end(0))}, 20), fn(0, api.MaxRegs, end(0, call(0, 7))))...))
	if d.Fns[20].Regs > api.MaxRegs {
		t.Error("too many registers")
	}
}

// P22.1: a call in a loop finds its registers 0 each time, those that are read ahead of being written, on whatever way; and its parameters are new ones each time.
func TestRegistersAreZero(t *testing.T) {
	loop := func(callee api.Fn) api.Code {
		return of(callee, fn(0, 5,
			jump(1, num(1, 3), num(2, 1)),
			branch(3, 2, 3, less(3, 0, 1)),
			jump(1, call(4, 0, slices.Repeat([]int{0}, callee.Params)...), show(4), add(0, 0, 2)),
			end(4)))
	}
	once := []int64{1, 1, 1}
	prints(t, "a register that counts", loop(fn(0, 2, end(0, num(1, 1), add(0, 0, 1)))), once, once)
	prints(t, "one behind a parameter", loop(fn(1, 3, end(1, num(2, 1), add(1, 1, 2), num(0, 9)))), once, once)
	prints(t, "a parameter that is written", loop(fn(1, 2, end(0, num(1, 7), add(0, 0, 1)))), []int64{7, 8, 9}, []int64{7, 8, 9})
	is := func(what string, callee api.Fn, want ...int64) {
		t.Helper()
		prints(t, what, loop(callee), want, want)
	}
	is("as an answer", fn(1, 2, branch(0, 1, 2), end(1), end(0, num(1, 4))), 0, 0, 0)
	is("as an answer, where both ways meet", fn(1, 2, branch(0, 2, 1), jump(2, num(1, 4)), end(1)), 4, 0, 0)
	is("as a branch's Cond", fn(0, 2, branch(0, 1, 2), end(1, num(1, 9)), end(0, num(0, 6))), 6, 6, 6)
	is("asked on the one way alone", fn(1, 4, branch(0, 1, 2), end(1, num(2, 5), add(1, 1, 2)), end(3, num(1, 4), num(3, 2))), 2, 5, 5)
	is("asked on the other way alone", fn(1, 4, branch(2, 2, 1, num(3, 1), less(2, 0, 3)), end(1, num(2, 5), add(1, 1, 2)), end(3, num(1, 4), num(3, 2))), 2, 5, 5)
	is("several", fn(0, 4, end(2, num(3, 1), add(0, 0, 3), add(1, 1, 0), add(2, 2, 1))), 1, 1, 1)
	is("far behind, in a part that comes first", fn(0, 3, jump(3), end(0, num(2, 1), add(0, 0, 2)), jump(1), jump(2)), 1, 1, 1)
	prints(t, "written behind being read, in the same part", loop(fn(0, 2, end(1, move(1, 0), num(0, 4)))), []int64{0, 0, 0}, []int64{0, 0, 0})
	prints(t, "a loop within", loop(fn(0, 4, jump(1, num(1, 4), num(2, 1)), branch(3, 1, 2, add(0, 0, 2), less(3, 0, 1)), end(0))), []int64{4, 4, 4}, []int64{4, 4, 4})
	prints(t, "its first part is the loop", loop(fn(0, 4, branch(3, 0, 1, num(1, 4), num(2, 1), add(0, 0, 2), less(3, 0, 1)), end(0))), []int64{4, 4, 4}, []int64{4, 4, 4})
	twice := of(fn(0, 2, end(0, num(1, 1), add(0, 0, 1))), fn(0, 1, end(0, call(0, 0), show(0), call(0, 0), show(0))))
	prints(t, "two calls", twice, []int64{1, 1}, []int64{1, 1})
}

// P22.1, P22.2: arguments of any kind.
func TestArguments(t *testing.T) {
	args := func(f api.Fn, insts ...api.Inst) api.Code {
		return of(f, fn(0, 4, end(0, append([]api.Inst{num(0, 8), num(1, 5), num(2, 3)}, insts...)...)))
	}
	swap := fn(2, 2, end(0, show(0), show(1)))
	three := fn(3, 3, end(0, show(0), show(1), show(2)))
	prints(t, "Dst is the first", args(minus(), call(0, 0, 0, 1), show(0)), []int64{3}, []int64{-3})
	prints(t, "Dst is the second", args(minus(), call(1, 0, 0, 1), show(1)), []int64{3}, []int64{-3})
	prints(t, "Dst is both", args(minus(), call(1, 0, 1, 1), show(1)), []int64{0}, []int64{0})
	prints(t, "Dst is an argument, which the function writes", args(fn(1, 2, end(1, num(0, 7), move(1, 0))), call(0, 0, 0), show(0)), []int64{7}, []int64{7})
	prints(t, "an argument that the function writes", args(fn(1, 1, end(0, num(0, 7))), call(3, 0, 0), show(3), show(0)), []int64{7, 8}, []int64{7, 8})
	prints(t, "the same register thrice", args(three, call(3, 0, 1, 1, 1), show(3)), []int64{5, 5, 5, 5}, []int64{5, 5, 5, 5})
	prints(t, "the first twice", args(three, call(3, 0, 0, 0, 2), show(3)), []int64{8, 8, 3, 8}, []int64{3, 8, 8, 3})
	prints(t, "three", args(three, call(3, 0, 0, 1, 2), show(3)), []int64{8, 5, 3, 8}, []int64{3, 5, 8, 3})
	prints(t, "three, the other way about", args(three, call(3, 0, 2, 1, 0), show(3)), []int64{3, 5, 8, 3}, []int64{8, 5, 3, 8})
	prints(t, "none", args(fn(0, 1, end(0, num(0, 6))), call(2, 0), show(2), show(1)), []int64{6, 5}, []int64{6, 5})
	prints(t, "one", args(fn(1, 1, end(0)), call(2, 0, 1), show(2)), []int64{5}, []int64{5})
	prints(t, "a parameter that isn't read", args(fn(2, 2, end(1)), call(3, 0, 0, 1), show(3)), []int64{5}, []int64{8})
	prints(t, "what one call answers to another one", args(minus(), call(0, 0, 0, 1), call(3, 0, 0, 2), show(3)), []int64{0}, []int64{6})
	prints(t, "one behind the other", args(swap, call(3, 0, 0, 1), call(3, 0, 1, 0), show(3)), []int64{8, 5, 5, 8, 5}, []int64{5, 8, 8, 5, 8})
}

// P22.1: functions of several parts, with branches, that end in several places, or go round; calls anywhere in a part, and in any part.
func TestParts(t *testing.T) {
	is := func(what string, c api.Code, want ...int64) {
		t.Helper()
		prints(t, what, c, want, want)
	}
	with := func(f api.Fn, n int64) api.Code {
		return of(f, fn(0, 3, end(2, num(0, n), call(1, 0, 0), show(1), show(0), add(2, 1, 0))))
	}
	sign := fn(1, 3, branch(2, 1, 2, less(2, 0, 1)), end(0, num(0, -1)), branch(0, 3, 4), end(0, num(0, 1)), end(0))
	for n, want := range map[int64]int64{-7: -1, 0: 0, 9: 1} {
		is(fmt.Sprint("three ends, ", n), with(sign, n), want, n)
	}
	either := fn(1, 2, branch(0, 1, 2), jump(3, num(1, 4)), jump(3, num(1, 5)), end(1))
	is("two ways that meet again, the one", with(either, 1), 4, 1)
	is("two ways that meet again, the other", with(either, 0), 5, 0)
	round := fn(1, 4, jump(1, num(2, 1)), branch(0, 2, 3), jump(1, add(1, 1, 0), sub(0, 0, 2)), end(1))
	is("it goes round", with(round, 4), 10, 4)
	is("it goes round no time", with(round, 0), 0, 0)
	is("parts that nobody reaches", with(fn(1, 1, end(0), jump(2, show(0)), end(0)), 3), 3, 3)
	is("a part that does nothing", with(fn(1, 1, jump(1), end(0)), 3), 3, 3)
	is("the first part is its last", with(fn(1, 2, jump(2), end(0), jump(1, num(0, 6))), 3), 6, 3)

	f := fn(1, 2, branch(0, 1, 2), end(0, show(0)), end(1, num(1, 7), show(1)))
	is("first and last in a part", of(f, fn(0, 2, end(1, call(0, 0, 1), call(1, 0, 0)))), 7, 7)
	is("ahead of a branch on what it answers", of(f, fn(0, 2, branch(1, 1, 2, call(1, 0, 0)), end(0, show(1)), end(0, show(0)))), 7, 7)
	is("a part that ends with what it answers", of(f, fn(0, 2, jump(1), end(1, call(1, 0, 0)))), 7)
	is("on two ways, of which one is gone", of(f, fn(0, 2, branch(1, 1, 2), jump(3, call(0, 0, 0)), jump(3, num(0, 2), call(0, 0, 0)), end(0, show(0), call(0, 0, 0)))), 2, 2, 2)
	d := gone(t, "in a part that nobody reaches", of(f, fn(0, 2, end(0, show(0)), end(0, call(0, 0, 0)))))
	if len(d.Fns[1].Parts) < 2 {
		t.Error("a part is gone")
	}
	back := fn(0, 3, branch(2, 0, 1, num(1, 1), add(0, 0, 1), call(2, 0, 1), show(0), num(2, 3), less(2, 0, 2)), end(0, call(0, 0, 0)))
	is("a first part that comes again", of(f, back), 1, 1, 1, 2, 1, 3, 3)
	spins := of(fn(0, 1, jump(0, num(0, 1))), fn(0, 1, end(0, show(0), call(0, 0), show(0))))
	for _, fault := range []bool{false, true} {
		if o := outcome(t, "a function without end", made(t, "a function without end", spins, fault), 500); !o.Fuel || !slices.Equal(o.Trace, []int64{0}) {
			t.Errorf("a function without end: %+v", o)
		}
	}
}

// P22.1: memory is one for all, and traps come where they came.
func TestMemoryAndTraps(t *testing.T) {
	c := of(
		fn(2, 3, end(2, api.Inst{Op: api.IIndex, Dst: 0, A: 0, B: 1, Imm: 3}, api.Inst{Op: api.ILoad, Dst: 2, A: 0}, num(1, 9), api.Inst{Op: api.IStore, A: 0, B: 1})),
		fn(0, 5, end(4, api.Inst{Op: api.IGlobal, Dst: 0, Imm: 1}, api.Inst{Op: api.ISlot, Dst: 1}, num(2, 2), call(3, 0, 0, 4), show(3), call(3, 0, 0, 4), show(3), call(3, 0, 1, 2), show(3), call(3, 0, 1, 2), show(3))))
	c.Globals, c.Inits = []int{1, 3}, []int64{4, 5}
	c.Fns[1].Slots = []int{3}
	d := gone(t, "cells", c)
	if o := outcome(t, "cells", d, 99); !slices.Equal(o.Trace, []int64{5, 9, 0, 9}) {
		t.Errorf("cells: %v", o.Trace)
	}
	if !reflect.DeepEqual(d.Globals, c.Globals) || !reflect.DeepEqual(d.Inits, c.Inits) || !reflect.DeepEqual(d.Fns[1].Slots, c.Fns[1].Slots) {
		t.Error("globals or slots are changed")
	}
	c.Fns[1].Parts[0].Insts[2].Imm = 3
	gone(t, "a place that there is not", c)
	gone(t, "a division by 0", of(fn(2, 2, end(0, api.Inst{Op: api.Div, Type: api.I8, Dst: 0, A: 0, B: 1})), fn(0, 2, end(0, num(0, 1), show(0), call(0, 0, 0, 1), show(0)))))
}

// P22.1: what an instruction of the function doesn't look at may be any number.
func TestWhatIsNotLookedAt(t *testing.T) {
	wild := []int{1 << 62, -1 << 63}
	f := fn(1, 2,
		api.Part{Insts: []api.Inst{{Op: api.IConst, Dst: 1, A: 1<<63 - 1, B: -1 << 63, Imm: 3, Args: wild}}, Cond: -99, Next: 1, Else: -5},
		api.Part{Insts: []api.Inst{{Op: api.IPrint, Dst: 77, A: 1, B: -4, Imm: -1, Args: wild}}, End: true, Cond: 0, Next: 55, Else: -1})
	c := calling(f)
	c.Fns[1].Parts[0].Insts[1].A, c.Fns[1].Parts[0].Insts[1].B = -7, 1<<63-1
	prints(t, "numbers that nobody looks at", c, []int64{3, 3}, []int64{3, 3})
	one := fn(1, 2, api.Part{Insts: f.Parts[0].Insts, End: true, Cond: 1, Next: 55, Else: -1})
	prints(t, "so in one part", calling(one), []int64{3}, []int64{3})
}

// P22.2: only calls that are done where they stand have their arguments in the other order.
func TestFaultLeavesOthers(t *testing.T) {
	slots := minus()
	slots.Slots = []int{1}
	body := end(3, num(0, 8), num(1, 5), call(2, 0, 0, 1), show(2), call(3, 1, 0, 1), show(3))
	c := of(minus(), slots, fn(0, 4, body))
	d := made(t, "one that stays", c, true)
	first := outcome(t, "one that stays", d, 99).Trace[0]
	if first != -3 || left(d, 2, 0) > 0 {
		t.Errorf("the call that is gone: %d", first)
	}
	if o := outcome(t, "one that stays", d, 99); left(d, 2, 1) == 1 && !slices.Equal(o.Trace, []int64{-3, 3}) {
		t.Errorf("the call that stays: %v", o.Trace)
	}
}

// P22.1, P1: code that isn't right: ir.Valid's error, and nothing beside it.
func TestErrors(t *testing.T) {
	long := api.Code{Fns: []api.Fn{{Regs: 1, Parts: parts{{Insts: make([]api.Inst, api.MaxInsts), End: true}}}}}
	main := func(p ...api.Part) api.Code { return of(minus(), fn(0, 3, p...)) }
	for what, r := range map[string]struct {
		c api.Code
		e api.Errno
	}{
		"nothing":                       {api.Code{}, api.ErrForm},
		"no part":                       {main(), api.ErrForm},
		"no such register":              {main(end(0, num(3, 5))), api.ErrForm},
		"no such argument":              {main(end(0, call(0, 0, 1, 3))), api.ErrForm},
		"an argument below 0":           {main(end(0, call(0, 0, -1, 1))), api.ErrForm},
		"too few Args":                  {main(end(0, call(0, 0, 1))), api.ErrForm},
		"too many Args":                 {main(end(0, call(0, 0, 1, 1, 1))), api.ErrForm},
		"a call of itself":              {main(end(0, call(0, 1))), api.ErrForm},
		"a call of none":                {main(end(0, call(0, -1))), api.ErrForm},
		"no such Dst of a call":         {main(end(0, call(3, 0, 1, 1))), api.ErrForm},
		"no such Op":                    {main(end(0, api.Inst{Op: api.LOr})), api.ErrForm},
		"no such Type":                  {main(end(0, api.Inst{Op: api.IConst, Type: 6})), api.ErrForm},
		"an end without Cond":           {main(end(-1)), api.ErrForm},
		"no such Next":                  {main(jump(1)), api.ErrForm},
		"in a part that nobody reaches": {main(end(0), jump(2)), api.ErrForm},
		"the last one has parameters":   {of(minus()), api.ErrForm},
		"too long, and no Ops":          {long, api.ErrLimit},
	} {
		for _, fault := range []bool{false, true} {
			if d, e := Run(r.c, fault); e != r.e || !reflect.DeepEqual(d, api.Code{}) {
				t.Errorf("%s, fault %v: %d functions, %d; want %d", what, fault, len(d.Fns), e, r.e)
			}
		}
	}
}

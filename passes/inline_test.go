package passes

import (
	"math/rand"
	"reflect"
	"slices"
	"testing"

	"burin/api"
	"burin/inline"
	"burin/ir"
)

// called: of each function, how many ICalls it has, how many instructions, how many parts.
func called(f api.Fn) (calls, insts, parts int) {
	for _, p := range f.Parts {
		for _, i := range p.Insts {
			if insts++; i.Op == api.ICall {
				calls++
			}
		}
	}
	return calls, insts, len(f.Parts)
}

// mustGo: is an instruction of a function of the code one of those that P22.1 says are not left?
func mustGo(c api.Code, caller int, i api.Inst) bool {
	if i.Op != api.ICall || len(c.Fns) > 20 {
		return false
	}
	count := 0
	for _, f := range c.Fns {
		_, insts, parts := called(f)
		count += insts + parts
	}
	f, in := c.Fns[i.Imm], c.Fns[caller]
	calls, insts, parts := called(f)
	small := calls == 0 && insts+parts <= 10 && f.Regs <= 20 && len(f.Slots) == 0
	calls, _, parts = called(in)
	return small && calls <= 10 && parts <= 100 && in.Regs <= 1000 && count <= 10000
}

// eachCall changes the calls of a copy that are done where they stand; how many there are.
func eachCall(c api.Code, change func(*api.Inst)) (api.Code, int) {
	d, many := ir.Copy(c), 0
	for fn, f := range d.Fns {
		for _, p := range f.Parts {
			for k := range p.Insts {
				if i := &p.Insts[k]; mustGo(c, fn, *i) {
					change(i)
					many++
				}
			}
		}
	}
	return d, many
}

// theirCalls: of each function of code, how many calls it has of each other one.
func theirCalls(c api.Code) map[[2]int]int {
	many := map[[2]int]int{}
	for fn, f := range c.Fns {
		for _, p := range f.Parts {
			for _, i := range p.Insts {
				if i.Op == api.ICall {
					many[[2]int{fn, int(i.Imm)}]++
				}
			}
		}
	}
	return many
}

// inlined: what layer 22 makes of right code, which must be right, with as many functions, and no call left that must go. How many are gone.
func inlined(t *testing.T, c api.Code, fault bool) (api.Code, int) {
	t.Helper()
	d, e := inline.Run(c, fault)
	if e != api.OK || ir.Valid(d) != api.OK {
		t.Fatalf("inline(%+v, %v): %d, Valid %d", c, fault, e, ir.Valid(d))
	}
	if len(c.Fns) != len(d.Fns) || !reflect.DeepEqual(ir.Copy(c).Globals, d.Globals) || !reflect.DeepEqual(ir.Copy(c).Inits, d.Inits) {
		t.Fatalf("inline(%+v, %v) = %+v: not all is there", c, fault, d)
	}
	was, is, gone := theirCalls(c), theirCalls(d), 0
	for fn, f := range d.Fns {
		if f.Params != c.Fns[fn].Params {
			t.Fatalf("inline(%+v, %v) = %+v: the parameters of %d", c, fault, d, fn)
		}
		for callee := range c.Fns {
			k := [2]int{fn, callee}
			if is[k] > 0 && mustGo(c, fn, api.Inst{Op: api.ICall, Imm: int64(callee)}) {
				t.Fatalf("inline(%+v, %v) = %+v: a call of %d is left in %d", c, fault, d, callee, fn)
			}
			gone += was[k] - is[k]
		}
	}
	return d, gone
}

// inTime: do both sides halt alike, within the steps that P22.1 tells? That they trap alike is more than it says: but no function with slots is done where it is called, so no address is another one.
func inTime(want, got api.Outcome) bool {
	steps := got.Steps
	got.Steps = want.Steps
	return alike(want, got) && steps <= 200+200*want.Steps
}

// inlinedAs asks that code does what other code does, as far as that comes to an end with so many steps.
func inlinedAs(t *testing.T, c, d api.Code, fuel int) api.Outcome {
	t.Helper()
	want := outcome(t, c, fuel)
	if want.Fuel {
		return want
	}
	if got := outcome(t, d, min(200+200*want.Steps, api.MaxFuel)); !inTime(want, got) {
		t.Fatalf("%+v became %+v: %+v; want %+v", c, d, got, want)
	}
	return want
}

// bothInlined runs both sides; then those of the fault, which must do what is done if the arguments stand in the other order.
func bothInlined(t *testing.T, c api.Code, fuel int) (o api.Outcome, gone int, wrong bool) {
	t.Helper()
	d, gone := inlined(t, c, false)
	o = inlinedAs(t, c, d, fuel)
	other, many := eachCall(c, func(i *api.Inst) { slices.Reverse(i.Args) })
	if many != gone {
		t.Fatalf("inline(%+v) = %+v: %d calls are gone; want %d", c, d, gone, many)
	}
	faulty, _ := inlined(t, c, true)
	if same, _ := inlined(t, other, false); !reflect.DeepEqual(plain(faulty), plain(same)) {
		t.Fatalf("inline(%+v) with the fault = %+v; want %+v", c, faulty, same)
	}
	want := inlinedAs(t, other, faulty, fuel)
	return o, gone, o.Halted && !(want.Halted && want.Exit == o.Exit && slices.Equal(want.Trace, o.Trace))
}

// small makes a function that is mostly a small one.
func (m *maker) small() api.Fn {
	f := api.Fn{Regs: 1 + m.Intn(6), Parts: make([]api.Part, 1+m.Intn(4)*m.Intn(2))}
	f.Params = m.Intn(f.Regs + 1)
	if m.Intn(12) == 0 {
		f.Slots = m.cells()
	}
	for n := range f.Parts {
		p := &f.Parts[n]
		for range m.Intn(11 / len(f.Parts)) {
			p.Insts = append(p.Insts, m.lead(&f, m.inst(&f, 0))...)
		}
		p.Cond, p.Next, p.Else = m.Intn(f.Regs+1)-1, m.Intn(len(f.Parts)), m.Intn(len(f.Parts))
		if p.End = len(f.Parts) == 1 || m.Intn(2) == 0; p.End {
			p.Cond = m.Intn(f.Regs)
		}
	}
	return f
}

// ask puts a call of a function ahead of another one somewhere in a part, and perhaps prints what it answers.
func (m *maker) ask(f *api.Fn, p *api.Part, number int) {
	i := api.Inst{Op: api.ICall, Dst: m.Intn(f.Regs), Imm: int64(m.Intn(number))}
	for range m.code.Fns[i.Imm].Params {
		i.Args = append(i.Args, m.Intn(f.Regs))
	}
	l := []api.Inst{m.noise(i)}
	if m.Intn(2) == 0 {
		l = append(l, api.Inst{Op: api.IPrint, A: i.Dst})
	}
	p.Insts = slices.Insert(p.Insts, m.Intn(len(p.Insts)+1), l...)
}

// asking: right code at random, of small functions and others that call them.
func asking(r *rand.Rand) api.Code {
	m := maker{Rand: r}
	m.code.Globals = m.cells()
	for range m.code.Globals {
		m.code.Inits = append(m.code.Inits, m.number())
	}
	for range 1 + m.Intn(4) {
		m.code.Fns = append(m.code.Fns, m.small())
	}
	first := len(m.code.Fns)
	last := first + m.Intn(3)
	for number := first; number <= last; number++ {
		m.function(number, number == last)
		f := &m.code.Fns[number]
		for n := range f.Parts {
			for range m.Intn(4) {
				m.ask(f, &f.Parts[n], number)
			}
		}
	}
	return m.code
}

// askingAgain: the same, but main calls small ones in a loop of three rounds, whose counters nobody else writes: most of it halts.
func askingAgain(r *rand.Rand) api.Code {
	m := maker{Rand: r}
	for range 1 + m.Intn(3) {
		m.code.Fns = append(m.code.Fns, m.small())
	}
	number := len(m.code.Fns)
	f := api.Fn{Regs: 1 + m.Intn(5)}
	round := api.Part{Insts: m.first(&f)}
	for range 2 + m.Intn(4) {
		m.ask(&f, &round, number)
	}
	n := f.Regs
	f.Regs += 4
	round.Insts = append(round.Insts, api.Inst{Op: api.Add, Type: api.I32, Dst: n, A: n, B: n + 1}, api.Inst{Op: api.Lt, Type: api.I32, Dst: n + 3, A: n, B: n + 2})
	round.Cond, round.Next, round.Else = n+3, 1, 2
	numbers := []api.Inst{{Op: api.IConst, Dst: n + 1, Imm: 1}, {Op: api.IConst, Dst: n + 2, Imm: 3}}
	f.Parts = []api.Part{{Insts: numbers, Cond: -1, Next: 1}, round, {End: true}}
	m.code.Fns = append(m.code.Fns, f)
	return m.code
}

// P22.1, P5: code made up of any right instructions does the same; P22.2: with the fault it does what it would do if the arguments of the calls that are gone stood in the other order.
func TestInlineMadeUp(t *testing.T) {
	r := rand.New(rand.NewSource(30))
	halted, traps, spent, calls, wrong := 0, 0, 0, 0, 0
	for n := range 12000 {
		c := asking(r)
		switch {
		case n%6 == 0:
			c = []func(*rand.Rand) api.Code{madeUp, tangled, remembering}[n/6%3](r)
		case n%6 < 4:
			c = askingAgain(r)
		}
		o, gone, bad := bothInlined(t, c, 400)
		calls += gone
		switch {
		case o.Halted:
			halted++
		case o.Fuel:
			spent++
		default:
			traps++
		}
		if bad {
			wrong++
		}
		if d, _ := inlined(t, c, false); n%5 == 0 && o.Halted { // what was called by others calls nobody now, and may be small
			bothInlined(t, d, 400)
		}
	}
	t.Logf("%d halted, %d trapped, %d spent, %d calls gone, made wrong by the fault: %d", halted, traps, spent, calls, wrong)
	if halted < 2000 || traps < 1000 || spent < 500 || calls < 20000 || wrong < 200 {
		t.Errorf("%d halted, %d trapped, %d spent, %d calls gone, made wrong by the fault: %d", halted, traps, spent, calls, wrong)
	}
}

// P22.1, P22.2, P5: the code of programs, as it is, behind each of the other passes, and behind all of them; and they behind this one.
func TestInlineDrawn(t *testing.T) {
	r := rand.New(rand.NewSource(31))
	calls, wrong := 0, 0
	for range 2000 {
		c := lowered(t, drawn(t, r))
		o, gone, bad := bothInlined(t, c, api.MaxFuel)
		if !o.Halted {
			t.Fatalf("%+v: %+v", c, o)
		}
		calls += gone
		if bad {
			wrong++
		}
		all := c
		for _, l := range layers() {
			d, _ := l.run(c, false)
			bothInlined(t, d, api.MaxFuel)
			all, _ = l.run(all, false)
		}
		bothInlined(t, all, api.MaxFuel)
	}
	t.Logf("%d calls gone, made wrong by the fault: %d", calls, wrong)
	if calls < 300 || wrong < 20 {
		t.Errorf("%d calls gone, made wrong by the fault: %d", calls, wrong)
	}
}

// asked are texts of programs with small functions, and how many of their calls must go.
var asked = []struct {
	text string
	gone int
}{
	{"u32 f(u32 x, u32 y) { return x ^ (y << 1u8); } i32 main() { u32 r; r = f(1u32, 2u32); print(r); return 0i32; }", 1},
	{"i32 f(i32 x, i32 y) { return x - y; } i32 main() { i32 r = 100i32; for i = 0i32 to 5i32 { r = f(r, i); print(r); r = f(i, r); } return r; }", 2},
	{"i32 f() { i32 x; x = x + 1i32; return x; } i32 main() { i32 r; for i = 0i32 to 3i32 { r = f(); print(r); } return r; }", 1},
	{"u8 f(u8 *p, u8 q) { *p = *p - q; return q; } u8 g = 9u8; i32 main() { u8 x = 3u8; x = f(&g, x); print(g); print(x); x = f(&x, g); print(x); f(&g, g); print(g); return (i32)x; }", 3},
	{"i32 f(i32 x) { if (x) { return 1i32; } return 2i32; } i32 main() { i32 r; r = f(0i32); print(r); r = f(r); print(r); f(r); return r; }", 3},
	{"i8 f(i8 x, i8 y) { return x / y; } i32 main() { i8 r; print(1u8); r = f(1i8, 0i8); print(r); return 0i32; }", 1},
	{"i32 f(i32 x) { return x + 1i32; } i32 g(i32 x, i32 y) { x = f(x); y = f(y); return x - y; } i32 main() { i32 r; r = g(7i32, 3i32); r = f(r); print(r); return r; }", 3},
	{"u8 a[4i32]; u8 f(u8 x, u8 y) { a[1i32] = x; return a[2i32] + y; } i32 main() { a[2i32] = 7u8; a[0i32] = f(a[2i32], 5u8); print(a[0i32]); print(a[1i32]); return 0i32; }", 1},
	{"u8 f(u8 x) { u8 a[2i32]; a[1i32] = x; return a[1i32]; } i32 main() { u8 r; r = f(5u8); print(r); return 0i32; }", 0},
}

// P22.1, P22.2: the code of these.
func TestInlineTexts(t *testing.T) {
	wrong := 0
	for _, s := range asked {
		c := read(t, s.text)
		_, gone, bad := bothInlined(t, c, 9999)
		if gone != s.gone {
			t.Errorf("%s: %d calls are gone; want %d", s.text, gone, s.gone)
		}
		if bad {
			wrong++
		}
		for _, l := range layers() {
			d, _ := l.run(c, false)
			bothInlined(t, d, 9999)
		}
	}
	if wrong < 3 {
		t.Errorf("made wrong by the fault: %d", wrong)
	}
	for _, s := range texts {
		bothInlined(t, read(t, s), 9999)
	}
}

package passes

import (
	"math/rand"
	"reflect"
	"slices"
	"testing"

	"burin/api"
	"burin/dead"
	"burin/ir"
	"burin/live"
)

// inVain: is an instruction one of those that P20.1 says are not left; with the fault, P20.2?
func inVain(f api.Fn, p api.Part, k int, fault bool) bool {
	i := p.Insts[k]
	readBehind := func(register int) bool {
		return readFirst(f, p, k+1, register, make([]bool, len(f.Parts)))
	}
	if i.Op == api.IStore {
		return fault && !readBehind(i.A)
	}
	return i.Op <= api.ILoad && !readBehind(i.Dst)
}

// deadOf: what layer 20 makes of code, a second way: any one that is in vain is left out, until there is none.
func deadOf(r *rand.Rand, c api.Code, fault bool) api.Code {
	c = ir.Copy(c)
	for _, f := range c.Fns {
		for {
			var found [][2]int
			for n, p := range f.Parts {
				for k := range p.Insts {
					if inVain(f, p, k, fault) {
						found = append(found, [2]int{n, k})
					}
				}
			}
			if len(found) == 0 {
				break
			}
			one := found[r.Intn(len(found))]
			p := &f.Parts[one[0]]
			p.Insts = slices.Delete(p.Insts, one[1], one[1]+1)
		}
	}
	return c
}

// plain: the same code, with nil for all lists that are empty.
func plain(c api.Code) api.Code {
	return eachPart(c, func(p *api.Part) {
		if len(p.Insts) == 0 {
			p.Insts = nil
		}
		for k := range p.Insts {
			if len(p.Insts[k].Args) == 0 {
				p.Insts[k].Args = nil
			}
		}
	})
}

// someOf: are these instructions some of those, in their order, with all that may not be left out? With the fault an IStore may.
func someOf(these, those []api.Inst, fault bool) bool {
	for _, i := range those {
		if len(these) > 0 && reflect.DeepEqual(these[0], i) {
			these = these[1:]
		} else if i.Op >= api.IStore && !(fault && i.Op == api.IStore) {
			return false
		}
	}
	return len(these) == 0
}

// nothingInVain asks layer 19 whether something is left that shouldn't be.
func nothingInVain(t *testing.T, c api.Code, fault bool) {
	t.Helper()
	for fn, f := range c.Fns {
		_, out, _ := live.Parts(c, fn)
		for n, p := range f.Parts {
			for k, after := range live.After(p, out[n]) {
				i := p.Insts[k]
				if (ir.Pure(i) || i.Op == api.ILoad) && !after.Has(i.Dst) || fault && i.Op == api.IStore && !after.Has(i.A) {
					t.Fatalf("%+v, fault %v: %+v is left", c, fault, i)
				}
			}
		}
	}
}

// swept: what layer 20 makes of right code, which must be right, some of its instructions, with all else in its place, and nothing left.
func swept(t *testing.T, c api.Code, fault bool) api.Code {
	t.Helper()
	d, e := dead.Run(c, fault)
	if e != api.OK || ir.Valid(d) != api.OK {
		t.Fatalf("dead(%+v, %v): %d, Valid %d", c, fault, e, ir.Valid(d))
	}
	noInsts := func(p *api.Part) { p.Insts = nil }
	if !reflect.DeepEqual(eachPart(c, noInsts), eachPart(d, noInsts)) {
		t.Fatalf("dead(%+v, %v) = %+v: not all is in its place", c, fault, d)
	}
	was, is := plain(c), plain(d)
	for fn, f := range is.Fns {
		for n, p := range f.Parts {
			if !someOf(p.Insts, was.Fns[fn].Parts[n].Insts, fault) {
				t.Fatalf("dead(%+v, %v) = %+v: these are not some of the instructions", c, fault, d)
			}
		}
	}
	nothingInVain(t, d, fault)
	if again, e := dead.Run(d, fault); e != api.OK || !reflect.DeepEqual(is, plain(again)) {
		t.Fatalf("dead(%+v, %v) = %+v; the second time %+v, %d", c, fault, d, again, e)
	}
	return d
}

// bothSwept runs both sides; what has trapped may do so no more.
func bothSwept(t *testing.T, c api.Code, fuel int) api.Outcome {
	t.Helper()
	d := swept(t, c, false)
	want := outcome(t, c, fuel)
	if got := outcome(t, d, fuel); want.Halted && !noLonger(want, got) {
		t.Fatalf("dead(%+v) = %+v: %+v; want %+v", c, d, got, want)
	}
	return want
}

// remember adds to a part's instructions some that store a number, and print what stands there then.
func (m *maker) remember(c api.Code, f *api.Fn, p *api.Part) {
	lead := api.Inst{Op: api.IGlobal, Dst: m.Intn(f.Regs)}
	many := len(c.Globals)
	if n := len(f.Slots); n > 0 && m.Intn(2) == 0 {
		lead.Op, many = api.ISlot, n
	}
	if many == 0 {
		return
	}
	lead.Imm = int64(m.Intn(many))
	l := []api.Inst{lead, {Op: api.IStore, A: lead.Dst, B: m.Intn(f.Regs)}}
	if m.Intn(2) == 0 {
		lead.Dst = m.Intn(f.Regs)
		l = append(l, lead)
	}
	answer := m.Intn(f.Regs)
	l = append(l, api.Inst{Op: api.ILoad, Dst: answer, A: lead.Dst}, api.Inst{Op: api.IPrint, A: answer})
	p.Insts = slices.Insert(p.Insts, m.Intn(len(p.Insts)+1), l...)
}

// remembering: right code at random that prints what it stores.
func remembering(r *rand.Rand) api.Code {
	c := madeUp(r)
	m := maker{Rand: r}
	for n := range c.Fns {
		f := &c.Fns[n]
		for k := range f.Parts {
			for range m.Intn(3) {
				m.remember(c, f, &f.Parts[k])
			}
		}
	}
	return c
}

// P20.1, P5: code made up of any right instructions does the same; what is left, and with the fault P20.2, is what the chapter says, and nothing else.
func TestDeadMadeUp(t *testing.T) {
	r := rand.New(rand.NewSource(25))
	halted, left, stores, wrong := 0, 0, 0, 0
	for n := range 6000 {
		c := []func(*rand.Rand) api.Code{madeUp, tangled, remembering}[n%3](r)
		right, faulty := swept(t, c, false), swept(t, c, true)
		for fault, d := range map[bool]api.Code{false: right, true: faulty} {
			if want := plain(deadOf(r, c, fault)); !reflect.DeepEqual(plain(d), want) {
				t.Fatalf("dead(%+v, %v) = %+v; want %+v", c, fault, d, want)
			}
		}
		left += ir.Count(c) - ir.Count(right)
		if !reflect.DeepEqual(right, faulty) {
			stores++
		}
		o := bothSwept(t, c, 400)
		if !o.Halted {
			continue
		}
		halted++
		if !noLonger(o, outcome(t, faulty, 400)) {
			wrong++
		}
		for _, p := range table() {
			bothSwept(t, p.of(t, c, false), 400)
		}
	}
	t.Logf("%d halted, %d instructions left out; changed by the fault: %d, made wrong: %d", halted, left, stores, wrong)
	if halted < 1000 || left < 30000 || stores < 1000 || wrong < 50 {
		t.Errorf("%d halted, %d instructions left out; changed by the fault: %d, made wrong: %d", halted, left, stores, wrong)
	}
}

// P20.1, P20.2, P5: the code of programs, as it is and behind the other passes.
func TestDeadDrawn(t *testing.T) {
	r := rand.New(rand.NewSource(26))
	left, wrong := 0, 0
	for range 400 {
		c := lowered(t, drawn(t, r))
		o := bothSwept(t, c, api.MaxFuel)
		if !o.Halted {
			t.Fatalf("%+v: %+v", c, o)
		}
		left += ir.Count(c) - ir.Count(swept(t, c, false))
		if !noLonger(o, outcome(t, swept(t, c, true), 1000+o.Steps)) {
			wrong++
		}
		for _, p := range table() {
			c = p.of(t, c, false)
		}
		bothSwept(t, c, api.MaxFuel)
	}
	t.Logf("%d instructions left out; made wrong by the fault: %d", left, wrong)
	if left < 500 || wrong < 50 {
		t.Errorf("%d instructions left out; made wrong by the fault: %d", left, wrong)
	}
	for _, s := range texts {
		bothSwept(t, read(t, s), api.MaxFuel)
		swept(t, read(t, s), true)
	}
}

// leftOut asks that all instructions of code are left out.
func leftOut(t *testing.T, what string, parts []api.Part) {
	t.Helper()
	c := api.Code{Fns: []api.Fn{{Regs: api.MaxRegs, Parts: parts}}}
	for _, fault := range []bool{false, true} {
		d, e := dead.Run(c, fault)
		if e != api.OK || ir.Count(d) != len(parts) {
			t.Errorf("%s, fault %v: %d left, %d", what, fault, ir.Count(d)-len(parts), e)
		}
	}
}

// P20.1, P1: as many instructions as there may be that are needed only by others that aren't: in one part, in few registers and in many; through many parts; where many registers are live in many parts.
func TestDeadGreatCode(t *testing.T) {
	many := api.MaxInsts - 1
	for _, regs := range []int{1, 2, 3, api.MaxRegs - 1} {
		insts := make([]api.Inst, many)
		for k := range insts {
			insts[k] = api.Inst{Op: api.Add, Dst: (k + 1) % regs, A: k % regs, B: k % regs}
		}
		leftOut(t, "a row in one part", []api.Part{{Insts: insts, End: true, Cond: api.MaxRegs - 1}})
	}
	row := func(many, regs int) []api.Part {
		parts := make([]api.Part, many)
		for k := range parts {
			parts[k] = api.Part{Insts: []api.Inst{{Op: api.IMove, Dst: (k + 1) % regs, A: k % regs}}, Cond: -1, Next: k + 1}
		}
		parts[many-1].End, parts[many-1].Cond = true, api.MaxRegs-1
		return parts
	}
	leftOut(t, "a row of parts in many registers", row(19000, api.MaxRegs-1))
	leftOut(t, "a row of parts in two registers", row(5000, 2))
	ring := api.Part{Cond: api.MaxRegs - 1, Next: 0, Else: 1}
	for k := range 10000 {
		ring.Insts = append(ring.Insts, api.Inst{Op: api.IMove, Dst: k, A: k + 1})
	}
	leftOut(t, "a row in a loop", []api.Part{ring, {End: true, Cond: api.MaxRegs - 1}})
	wide := row(5000, 2)
	for k := range wide {
		wide[k].Insts = nil
	}
	for k := range 5000 {
		wide[0].Insts = append(wide[0].Insts, api.Inst{Op: api.IConst, Dst: k})
		wide[4999].Insts = append(wide[4999].Insts, api.Inst{Op: api.INot, Dst: k, A: k})
	}
	leftOut(t, "many live in many parts", wide)
}

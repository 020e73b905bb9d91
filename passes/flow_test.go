package passes

import (
	"math/rand"
	"reflect"
	"slices"
	"testing"

	"burin/api"
	"burin/flow"
	"burin/ir"
)

// tangle adds to a function parts that do little or nothing, and lets others go on at them.
func (m *maker) tangle(f *api.Fn) {
	for range m.Intn(9) {
		var p api.Part
		if m.Intn(4) == 0 {
			p.Insts = []api.Inst{{Op: api.IPrint, A: m.Intn(f.Regs)}}
		}
		p.Cond = m.Intn(f.Regs)
		if p.End = m.Intn(12) == 0; !p.End && m.Intn(2) == 0 {
			p.Cond = -1
		}
		f.Parts = append(f.Parts, p)
	}
	for n := range f.Parts {
		p := &f.Parts[n]
		if n >= len(f.Parts)/2 || m.Intn(2) == 0 {
			p.Next, p.Else = m.Intn(len(f.Parts)), m.Intn(len(f.Parts))
		}
		if !p.End && p.Cond >= 0 && m.Intn(4) == 0 {
			p.Insts = append(p.Insts, api.Inst{Op: api.IConst, Dst: p.Cond, Imm: int64(m.Intn(3) - 1)})
		}
	}
	for n := range f.Parts {
		if m.Intn(2) == 0 {
			m.cut(f, n)
		}
	}
	if n := m.Intn(len(f.Parts)); m.Intn(3) == 0 {
		swap := func(to *int) {
			switch *to {
			case 0:
				*to = n
			case n:
				*to = 0
			}
		}
		f.Parts[0], f.Parts[n] = f.Parts[n], f.Parts[0]
		for k := range f.Parts {
			swap(&f.Parts[k].Next)
			swap(&f.Parts[k].Else)
		}
	}
}

// cut makes two parts of one, which follow one another alone.
func (m *maker) cut(f *api.Fn, n int) {
	p := f.Parts[n]
	at := m.Intn(len(p.Insts) + 1)
	f.Parts[n] = api.Part{Insts: slices.Clone(p.Insts[:at]), Cond: -1, Next: len(f.Parts)}
	p.Insts = slices.Clone(p.Insts[at:])
	f.Parts = append(f.Parts, p)
}

// tangled: right code at random, many of whose ways are not straight.
func tangled(r *rand.Rand) api.Code {
	c := madeUp(r)
	m := maker{Rand: r}
	for n := range c.Fns {
		m.tangle(&c.Fns[n])
	}
	return c
}

// isKnown: does a part end in a branch whose Cond was last written in it by an IConst?
func isKnown(p api.Part) (int64, bool) {
	if p.End || p.Cond < 0 {
		return 0, false
	}
	at := wroteLast(p.Insts, p.Cond)
	if at < 0 || p.Insts[at].Op != api.IConst {
		return 0, false
	}
	return p.Insts[at].Imm, true
}

// doesNothing: has it no instructions, and only goes on?
func doesNothing(p api.Part) bool { return len(p.Insts) == 0 && !p.End && p.Cond < 0 }

// goesRound: does a part that does nothing go on at others that do nothing until it comes again?
func goesRound(f api.Fn, n int) bool {
	at := n
	for range f.Parts {
		if !doesNothing(f.Parts[at]) {
			return false
		}
		if at = f.Parts[at].Next; at == n {
			return true
		}
	}
	return false
}

// reaches: of each part, whether it is reached from a part on.
func reaches(f api.Fn, from int, seen []bool) []bool {
	seen[from] = true
	for _, to := range next(f.Parts[from]) {
		if !seen[to] {
			reaches(f, to, seen)
		}
	}
	return seen
}

// isStraight asks that nothing is left in a function that P21.1 says is not left.
func isStraight(t *testing.T, f api.Fn) {
	t.Helper()
	for n, p := range f.Parts {
		if _, ok := isKnown(p); ok {
			t.Fatalf("%+v: the branch of %d is known", f, n)
		}
		if !p.End && p.Cond >= 0 && p.Next == p.Else {
			t.Fatalf("%+v: both ways of %d lead to one part", f, n)
		}
		if n > 0 && doesNothing(p) && !goesRound(f, n) {
			t.Fatalf("%+v: %d does nothing", f, n)
		}
	}
	if n := slices.Index(reaches(f, 0, make([]bool, len(f.Parts))), false); n >= 0 {
		t.Fatalf("%+v: nobody reaches %d", f, n)
	}
}

// straight: what layer 21 makes of right code, which must be right, and straight.
func straight(t *testing.T, c api.Code, fault bool) api.Code {
	t.Helper()
	d, e := flow.Run(c, fault)
	if e != api.OK || ir.Valid(d) != api.OK {
		t.Fatalf("flow(%+v, %v): %d, Valid %d", c, fault, e, ir.Valid(d))
	}
	if len(c.Fns) != len(d.Fns) || !reflect.DeepEqual(c.Globals, d.Globals) || !reflect.DeepEqual(c.Inits, d.Inits) {
		t.Fatalf("flow(%+v, %v) = %+v: not all is there", c, fault, d)
	}
	for n, f := range d.Fns {
		was := c.Fns[n]
		if len(f.Parts) > len(was.Parts) || f.Params != was.Params || f.Regs != was.Regs || !reflect.DeepEqual(f.Slots, was.Slots) {
			t.Fatalf("flow(%+v, %v) = %+v: function %d", c, fault, d, n)
		}
		isStraight(t, f)
	}
	return d
}

// otherWay: the same code, but branches that are known go the other way.
func otherWay(c api.Code) api.Code {
	return eachPart(c, func(p *api.Part) {
		if _, ok := isKnown(*p); ok {
			p.Next, p.Else = p.Else, p.Next
		}
	})
}

// goes asks that code which was made straight halts, or traps, as the other one does, in no more steps.
func goes(t *testing.T, c, d api.Code, fuel int) api.Outcome {
	t.Helper()
	want, got := outcome(t, c, fuel), outcome(t, d, fuel)
	steps := got.Steps
	if got.Steps = want.Steps; !want.Fuel && (!alike(want, got) || steps > want.Steps) {
		t.Fatalf("%+v became %+v: %+v in %d steps; want %+v", c, d, got, steps, want)
	}
	return want
}

// P21.1, P5: code made up of any right instructions, with ways of any kind, does the same; P21.2: with the fault it does what it would do if known branches went the other way.
func TestFlowMadeUp(t *testing.T) {
	r := rand.New(rand.NewSource(27))
	halted, traps, spent, fewer, changed, wrong := 0, 0, 0, 0, 0, 0
	for n := range 20000 {
		c := tangled(r)
		if n%5 == 0 {
			c = madeUp(r)
		}
		right, faulty := straight(t, c, false), straight(t, c, true)
		o := goes(t, c, right, 400)
		goes(t, otherWay(c), faulty, 400)
		goes(t, right, straight(t, right, true), 400) // where none is known, there is no other way
		if !reflect.DeepEqual(otherWay(c), ir.Copy(c)) {
			changed++
		}
		for n, f := range right.Fns {
			fewer += len(c.Fns[n].Parts) - len(f.Parts)
		}
		switch {
		case o.Halted:
			halted++
			if got := outcome(t, faulty, 400); !got.Halted || got.Exit != o.Exit || !slices.Equal(got.Trace, o.Trace) {
				wrong++
			}
		case o.Fuel:
			spent++
		default:
			traps++
		}
	}
	t.Logf("%d halted, %d trapped, %d spent, %d parts fewer; known branches in %d, made wrong by the fault: %d", halted, traps, spent, fewer, changed, wrong)
	if halted < 2000 || traps < 2000 || spent < 500 || fewer < 100000 || changed < 5000 || wrong < 200 {
		t.Errorf("%d halted, %d trapped, %d spent, %d parts fewer; known branches in %d, made wrong by the fault: %d", halted, traps, spent, fewer, changed, wrong)
	}
}

// P21.1, P21.2, P5: the code of programs, as it is and behind the other passes.
func TestFlowDrawn(t *testing.T) {
	r := rand.New(rand.NewSource(28))
	wrong := 0
	for range 600 {
		c := lowered(t, drawn(t, r))
		goes(t, c, straight(t, c, false), api.MaxFuel)
		for _, p := range table() {
			c = p.of(t, c, false)
		}
		c = swept(t, c, false)
		o := goes(t, c, straight(t, c, false), api.MaxFuel)
		other, faulty := otherWay(c), straight(t, c, true)
		if goes(t, other, faulty, 1000+o.Steps); !noLonger(o, outcome(t, faulty, 1000+o.Steps)) {
			wrong++
		}
	}
	t.Logf("made wrong by the fault: %d", wrong)
	if wrong < 5 {
		t.Errorf("made wrong by the fault: %d", wrong)
	}
	for _, s := range texts {
		c := read(t, s)
		goes(t, c, straight(t, c, false), api.MaxFuel)
		goes(t, otherWay(c), straight(t, c, true), api.MaxFuel)
	}
}

// P5: passes one behind the other, in any order, each several times, do what the code did; in no more steps, if layer 22 isn't among them.
func TestAnyOrder(t *testing.T) {
	r := rand.New(rand.NewSource(29))
	halted := 0
	for n := range 6000 {
		c, fuel := tangled(r), 400
		switch {
		case n%20 == 0:
			c, fuel = lowered(t, drawn(t, r)), api.MaxFuel
		case n%3 == 0:
			c = asking(r)
		}
		want := outcome(t, c, fuel)
		if !want.Halted {
			continue
		}
		halted++
		d, most := c, want.Steps
		for range 10 {
			l := layers()[r.Intn(len(layers()))]
			var e api.Errno
			if d, e = l.run(d, false); e != api.OK || ir.Valid(d) != api.OK {
				t.Fatalf("%s: %d, Valid %d", l.name, e, ir.Valid(d))
			}
			if l.name == "inline" {
				most = 200 + 200*want.Steps
			}
		}
		got := outcome(t, d, api.MaxFuel)
		steps := got.Steps
		if got.Steps = want.Steps; !alike(want, got) || steps > most {
			t.Fatalf("%+v became %+v: %+v in %d steps; want %+v", c, d, got, steps, want)
		}
	}
	if halted < 1000 {
		t.Errorf("%d halted", halted)
	}
}

// Parts by how they end.
func ends(insts ...api.Inst) api.Part           { return api.Part{Insts: insts, End: true} }
func on(to int, insts ...api.Inst) api.Part     { return api.Part{Insts: insts, Cond: -1, Next: to} }
func fork(a, b int, insts ...api.Inst) api.Part { return api.Part{Insts: insts, Next: a, Else: b} }

// P21.1, P1: as many parts as there may be: in a row and in a ring, with nothing in them; branches that lead to one part only as those behind them do; branches that are known only by what stands far ahead; loops.
func TestFlowGreatCode(t *testing.T) {
	many := api.MaxInsts / 3
	last := many - 1
	one, two, prints := api.Inst{Op: api.IConst, Imm: 7}, api.Inst{Op: api.IConst, Dst: 1, Imm: 8}, api.Inst{Op: api.IPrint}
	for what, r := range map[string]struct {
		left int // parts
		part func(k int) api.Part
	}{
		"a ring":                    {1, func(k int) api.Part { return on((k + 1) % many) }},
		"a row":                     {1, func(k int) api.Part { return on(k + 1) }},
		"a row that does something": {1, func(k int) api.Part { return on(k+1, prints) }},
		"a row back":                {1, func(k int) api.Part { return on((k + last) % many) }},
		"forks that lead to one": {1, func(k int) api.Part {
			if k%2 == 1 || k == last-1 {
				return on(last)
			}
			return fork(k+1, k+2)
		}},
		"so, the other way about": {1, func(k int) api.Part {
			if k%2 == 1 || k == 0 {
				return on(last)
			}
			return fork(k-1, k-2)
		}},
		"forks that don't": {many, func(k int) api.Part { return fork(k+1, (k+many/2)%many) }},
		"forks known far ahead": {1, func(k int) api.Part {
			switch {
			case k == 0:
				return on(3, one)
			case k%3 == 0:
				return fork(min(k+1, last), min(k+2, last), prints)
			}
			return on(min(k-k%3+3, last), two)
		}},
		"each at itself": {many, func(k int) api.Part { return fork(k, k+1, prints) }},
	} {
		parts := make([]api.Part, many)
		for k := range parts {
			parts[k] = r.part(k)
		}
		if what != "a ring" && what != "a row back" {
			parts[last] = ends(prints)
		}
		c := api.Code{Fns: []api.Fn{{Regs: 2, Parts: parts}}}
		if ir.Valid(c) != api.OK {
			t.Fatalf("%s isn't right", what)
		}
		d := straight(t, c, false)
		if len(d.Fns[0].Parts) != r.left {
			t.Errorf("%s: %d parts; want %d", what, len(d.Fns[0].Parts), r.left)
		}
		goes(t, c, d, api.MaxFuel)
		goes(t, otherWay(c), straight(t, c, true), api.MaxFuel)
	}
}

package passes

import (
	"math/rand"
	"reflect"
	"slices"
	"testing"

	"burin/api"
	"burin/ir"
	"burin/live"
)

// next: the parts at which a part may go on.
func next(p api.Part) []int {
	if p.End {
		return nil
	}
	if p.Cond < 0 {
		return []int{p.Next}
	}
	return []int{p.Else, p.Next}
}

// readFirst: is a register read ahead of being written on some way from a place of a part on? seen are the parts that a way has begun at.
func readFirst(f api.Fn, p api.Part, at, register int, seen []bool) bool {
	for _, i := range p.Insts[at:] {
		for _, read := range readBy(&i) {
			if *read == register {
				return true
			}
		}
		if wroteLast([]api.Inst{i}, register) >= 0 {
			return false
		}
	}
	return p.Cond == register || readBehind(f, p, register, seen)
}

// readBehind: so from a part's end on.
func readBehind(f api.Fn, p api.Part, register int, seen []bool) bool {
	for _, to := range next(p) {
		if seen[to] {
			continue
		}
		seen[to] = true
		if readFirst(f, f.Parts[to], 0, register, seen) {
			return true
		}
	}
	return false
}

// those: all registers of a function for which it holds.
func those(f api.Fn, holds func(register int, seen []bool) bool) []int {
	var l []int
	for register := range f.Regs {
		if holds(register, make([]bool, len(f.Parts))) {
			l = append(l, register)
		}
	}
	return l
}

// isSet asks a Set for its registers, both ways.
func isSet(t *testing.T, f api.Fn, s live.Set, want []int) {
	t.Helper()
	if got := s.List(); !slices.Equal(got, want) {
		t.Fatalf("%+v: List = %v; want %v", f, got, want)
	}
	for _, register := range []int{-1 << 63, -64, -1, f.Regs, f.Regs + 64, 1<<63 - 1} {
		if s.Has(register) {
			t.Fatalf("%+v: Has(%d)", f, register)
		}
	}
	for register := range f.Regs {
		if s.Has(register) != slices.Contains(want, register) {
			t.Fatalf("%+v: Has(%d) = %v", f, register, s.Has(register))
		}
	}
}

// lives asks layer 19 of each place of code what is live there; how many registers it told.
func lives(t *testing.T, c api.Code) int {
	t.Helper()
	told := 0
	for fn, f := range c.Fns {
		in, out, e := live.Parts(c, fn)
		if e != api.OK || len(in) != len(f.Parts) || len(out) != len(f.Parts) {
			t.Fatalf("Parts(%+v, %d): %d, %d, %d", c, fn, len(in), len(out), e)
		}
		for n, p := range f.Parts {
			isSet(t, f, in[n], those(f, func(r int, seen []bool) bool { return readFirst(f, p, 0, r, seen) }))
			isSet(t, f, out[n], those(f, func(r int, seen []bool) bool { return readBehind(f, p, r, seen) }))
			after := live.After(p, out[n])
			if len(after) != len(p.Insts) {
				t.Fatalf("After(%+v): %d", p, len(after))
			}
			for k, s := range after {
				isSet(t, f, s, those(f, func(r int, seen []bool) bool { return readFirst(f, p, k+1, r, seen) }))
				told += len(s.List())
			}
		}
	}
	return told
}

// P19.1, P19.2, P19.3: for code made up of any right instructions, and what the passes make of it.
func TestLiveMadeUp(t *testing.T) {
	r := rand.New(rand.NewSource(20))
	told := 0
	for range 4000 {
		c := madeUp(r)
		told += lives(t, c)
		for _, p := range table() {
			told += lives(t, p.of(t, c, r.Intn(2) == 0))
		}
	}
	if told < 500000 {
		t.Errorf("%d registers were told", told)
	}
}

// P19.1, P19.2, P19.3: for the code of programs.
func TestLiveDrawn(t *testing.T) {
	r := rand.New(rand.NewSource(21))
	for range 200 {
		lives(t, lowered(t, drawn(t, r)))
	}
	for _, s := range texts {
		lives(t, read(t, s))
	}
}

// P19.3: what isn't live may be written over, and a run does the same, with steps for that.
func TestDeadIsWrittenOver(t *testing.T) {
	r := rand.New(rand.NewSource(22))
	halted := 0
	for range 20000 {
		c := madeUp(r)
		want := outcome(t, c, 400)
		if !want.Halted {
			continue
		}
		halted++
		d := ir.Copy(c)
		for fn, f := range c.Fns {
			_, out, _ := live.Parts(c, fn)
			for n, p := range f.Parts {
				d.Fns[fn].Parts[n].Insts = writtenOver(r, f, p, live.After(p, out[n]))
			}
		}
		got := outcome(t, d, api.MaxFuel)
		if got.Steps -= want.Steps; got.Steps < 0 || got.Steps > want.Steps*6 {
			t.Fatalf("%+v: %d steps more", d, got.Steps)
		}
		if got.Steps = want.Steps; !alike(want, got) {
			t.Fatalf("%+v: %+v; want %+v", d, got, want)
		}
	}
	if halted < 5000 {
		t.Errorf("%d halted", halted)
	}
}

// writtenOver: the instructions of a part, and behind each one an IConst into some of the registers that aren't live there.
func writtenOver(r *rand.Rand, f api.Fn, p api.Part, after []live.Set) []api.Inst {
	var l []api.Inst
	for k, i := range p.Insts {
		l = append(l, i)
		for register := range f.Regs {
			if !after[k].Has(register) && r.Intn(2) == 0 {
				l = append(l, api.Inst{Op: api.IConst, Dst: register, Imm: -77})
			}
		}
	}
	return l
}

// P19.2: code that isn't right, and functions that there are not.
func TestLiveErrors(t *testing.T) {
	r := rand.New(rand.NewSource(23))
	seen := map[api.Errno]int{}
	for range 20000 {
		c := madeUp(r)
		if r.Intn(2) == 0 {
			spoil(r, &c)
		}
		fn := []int{0, len(c.Fns) - 1, len(c.Fns), -1, -1 << 63, 1<<63 - 1}[r.Intn(6)]
		want := ir.Valid(c)
		if want == api.OK && (fn < 0 || fn >= len(c.Fns)) {
			want = api.ErrNone
		}
		in, out, e := live.Parts(c, fn)
		if e != want || e != api.OK && len(in)+len(out) > 0 {
			t.Fatalf("Parts(%+v, %d): %v, %v, %d; want %d", c, fn, in, out, e, want)
		}
		seen[e]++
	}
	if seen[api.OK] < 2000 || seen[api.ErrForm] < 2000 || seen[api.ErrNone] < 2000 {
		t.Errorf("errors %v", seen)
	}
}

// told: all that a layer's Sets tell.
func told(sets ...[]live.Set) [][]int {
	var l [][]int
	for _, list := range sets {
		for _, s := range list {
			l = append(l, s.List())
		}
	}
	return l
}

// P2, and the rule of memory: the same arguments give the same answers; code is neither changed nor kept; Sets and lists are new memory.
func TestLiveMemory(t *testing.T) {
	r := rand.New(rand.NewSource(24))
	for range 2000 {
		c := withRoom(madeUp(r))
		held := inner(c)
		fn := r.Intn(len(c.Fns))
		in, out, _ := live.Parts(c, fn)
		in2, out2, _ := live.Parts(c, fn)
		first := told(in, out)
		if !reflect.DeepEqual(first, told(in2, out2)) {
			t.Fatalf("Parts(%+v, %d): two answers", c, fn)
		}
		for n, p := range c.Fns[fn].Parts {
			after, again := live.After(p, out[n]), live.After(p, out[n])
			all := told(after)
			if !reflect.DeepEqual(all, told(again)) {
				t.Fatalf("After(%+v, %v): two answers", p, out[n].List())
			}
			clear(after)
			for _, l := range told(again) {
				clear(l)
			}
			if !reflect.DeepEqual(all, told(again)) {
				t.Fatalf("After(%+v, %v): answers share memory", p, out[n].List())
			}
		}
		if !reflect.DeepEqual(first, told(in, out)) || !reflect.DeepEqual(held, inner(c)) {
			t.Fatalf("%+v: what was handed in is changed", c)
		}
		clear(in2)
		clear(out2)
		var l lists
		l.add(c)
		l.apart(t)
		if !reflect.DeepEqual(first, told(in, out)) {
			t.Fatalf("%+v: an answer shares memory", held)
		}
	}
}

// P1: as many parts and registers as there may be: a long row of parts, at whose end many are read; parts that go on at those ahead of them.
func TestLiveGreatCode(t *testing.T) {
	many := 10000
	parts := make([]api.Part, many)
	for k := range parts {
		parts[k] = api.Part{Cond: -1, Next: k + 1}
	}
	last := api.Part{End: true, Cond: api.MaxRegs - 1}
	for k := range 1000 {
		last.Insts = append(last.Insts, api.Inst{Op: api.IStore, A: k * 20, B: k*20 + 7})
	}
	parts[many-1] = last
	in, out, e := live.Parts(api.Code{Fns: []api.Fn{{Regs: api.MaxRegs, Parts: parts}}}, 0)
	if e != api.OK || !reflect.DeepEqual(in[0].List(), in[many-1].List()) || !reflect.DeepEqual(in[0].List(), out[many-2].List()) || len(in[0].List()) != 2001 {
		t.Fatalf("a row: %d, %d", len(in), e)
	}
	for k := range parts {
		parts[k] = api.Part{Insts: []api.Inst{{Op: api.IConst, Dst: k}}, Cond: max(k-1, 0), Next: (k + 1) % many, Else: max(k-1, 0)}
	}
	in, _, e = live.Parts(api.Code{Fns: []api.Fn{{Regs: api.MaxRegs, Parts: parts}}}, 0)
	if e != api.OK || !in[9].Has(8) || in[9].Has(9) || in[9].Has(10) {
		t.Fatalf("ways back: %v, %d", in[9].List(), e)
	}
	whole := api.Part{End: true}
	for k := range api.MaxInsts - 1 {
		whole.Insts = append(whole.Insts, api.Inst{Op: api.Add, Dst: k * 3 % api.MaxRegs, A: k * 5 % api.MaxRegs, B: k * 7 % api.MaxRegs})
	}
	if l := live.After(whole, live.Set{}); len(l) != api.MaxInsts-1 || !slices.Equal(l[len(l)-1].List(), []int{0}) {
		t.Fatal("After of a great part")
	}
}

package passes

import (
	"math/rand"
	"reflect"
	"slices"
	"testing"

	"burin/api"
	"burin/ir"
)

// refused asks that nothing is told but ir.Valid's error, with the fault and without.
func (p layer) refused(t *testing.T, c api.Code, want api.Errno) {
	t.Helper()
	if e := ir.Valid(c); e != want {
		t.Fatalf("Valid = %d; want %d", e, want)
	}
	for _, fault := range []bool{false, true} {
		d, e := p.run(c, fault)
		if e != want || want != api.OK && !reflect.DeepEqual(d, api.Code{}) {
			t.Errorf("%s of wrong code, fault %v: %d functions, %d; want %d", p.name, fault, len(d.Fns), e, want)
		}
	}
}

// row: so many instructions, all alike, in a part of their own.
func row(regs, many int, i api.Inst) api.Fn {
	return api.Fn{Regs: regs, Parts: []api.Part{{Insts: slices.Repeat([]api.Inst{i}, many), End: true}}}
}

// P16.1, P17.1, P18.1, P20.1, P21.1, P22.1, P1: code that isn't right.
func TestErrors(t *testing.T) {
	move := api.Inst{Op: api.IMove}
	of := func(fns ...api.Fn) api.Code { return api.Code{Fns: fns} }
	wrong := func(change func(i *api.Inst)) api.Code {
		i := api.Inst{Op: api.Add}
		change(&i)
		return of(row(1, 3, i))
	}
	for _, r := range []struct {
		c api.Code
		e api.Errno
	}{
		{api.Code{}, api.ErrForm},
		{api.Code{Fns: []api.Fn{}}, api.ErrForm},
		{of(api.Fn{}), api.ErrForm},
		{of(row(0, 0, move)), api.ErrForm},
		{of(row(1, 0, move)), api.OK},
		{of(row(api.MaxRegs, 1, move)), api.OK},
		{of(row(api.MaxRegs+1, 1, move)), api.ErrForm},
		{of(row(1, api.MaxInsts-1, move)), api.OK},
		{of(row(1, api.MaxInsts, move)), api.ErrLimit},
		{of(row(1, api.MaxInsts-3, move), row(1, 1, move)), api.OK},
		{of(row(1, api.MaxInsts-3, move), row(1, 2, move)), api.ErrLimit},
		{of(row(0, api.MaxInsts, move)), api.ErrLimit},
		{api.Code{Globals: []int{1}, Fns: []api.Fn{row(1, 0, move)}}, api.ErrForm},
		{api.Code{Globals: []int{0}, Inits: []int64{0}, Fns: []api.Fn{row(1, 0, move)}}, api.ErrForm},
		{wrong(func(i *api.Inst) { i.Op = 0 }), api.ErrForm},
		{wrong(func(i *api.Inst) { i.Op = 17 }), api.ErrForm},
		{wrong(func(i *api.Inst) { i.Op = 255 }), api.ErrForm},
		{wrong(func(i *api.Inst) { i.Type = 6 }), api.ErrForm},
		{wrong(func(i *api.Inst) { i.A = -1 }), api.ErrForm},
		{wrong(func(i *api.Inst) { i.A = 1 }), api.ErrForm},
		{wrong(func(i *api.Inst) { i.B = 1 << 40 }), api.ErrForm},
		{wrong(func(i *api.Inst) { i.Dst = -1 << 63 }), api.ErrForm},
		{wrong(func(i *api.Inst) { i.Op = api.ICall }), api.ErrForm},
	} {
		for _, p := range layers() {
			p.refused(t, r.c, r.e)
		}
	}
	r := rand.New(rand.NewSource(18))
	seen := map[api.Errno]int{}
	for n := range 20000 {
		c := madeUp(r)
		if n%4 == 0 {
			c = asking(r)
		}
		spoil(r, &c)
		e := ir.Valid(c)
		seen[e]++
		for _, p := range layers() {
			p.refused(t, c, e)
		}
	}
	if seen[api.OK] < 500 || seen[api.ErrForm] < 5000 {
		t.Errorf("errors %v", seen)
	}
}

// P1: as many registers and instructions as there may be: moves in a long row, the one way about and the other, and all read at the end; numbers and sums that are never the same; many parts, and many functions.
func TestGreatCode(t *testing.T) {
	for _, step := range []int{1, -1} {
		insts := []api.Inst{{Op: api.IConst, Dst: 0, Imm: 5}}
		for k := range api.MaxRegs - 1 {
			to, from := k+1, k
			if step < 0 {
				to, from = k, k+1
			}
			insts = append(insts, api.Inst{Op: api.IMove, Dst: to, A: from})
		}
		for k := range api.MaxInsts - len(insts) - 1 {
			insts = append(insts, api.Inst{Op: api.IPrint, A: k % api.MaxRegs})
		}
		c := api.Code{Fns: []api.Fn{{Regs: api.MaxRegs, Parts: []api.Part{{Insts: insts, End: true, Cond: api.MaxRegs - 1}}}}}
		for _, p := range layers() {
			d, e := p.run(c, false)
			if e != api.OK || !noLonger(outcome(t, c, api.MaxFuel), outcome(t, d, api.MaxFuel)) {
				t.Errorf("%s: %d", p.name, e)
			}
			if _, e := p.run(c, true); e != api.OK {
				t.Errorf("%s with the fault: %d", p.name, e)
			}
		}
	}
	insts := make([]api.Inst, api.MaxInsts-1)
	for k := range insts {
		insts[k] = api.Inst{Op: api.IConst, Dst: k % api.MaxRegs, Imm: int64(k)}
		if k%3 > 0 {
			insts[k] = api.Inst{Op: api.Xor, Dst: k % api.MaxRegs, A: k / 3, B: k * k % api.MaxRegs}
		}
	}
	sums := api.Code{Fns: []api.Fn{{Regs: api.MaxRegs, Parts: []api.Part{{Insts: insts, End: true}}}}}
	parts := make([]api.Part, api.MaxInsts/2)
	for k := range parts {
		parts[k] = api.Part{Insts: []api.Inst{{Op: api.IMove, Dst: api.MaxRegs - 1}}, Cond: api.MaxRegs - 1, Next: k, Else: 0}
	}
	fns := slices.Repeat([]api.Fn{{Params: api.MaxRegs, Regs: api.MaxRegs, Parts: parts[:1]}}, api.MaxInsts/2-1)
	for _, c := range []api.Code{sums, {Fns: []api.Fn{{Regs: api.MaxRegs, Parts: parts}}}, {Fns: append(fns, row(1, 0, api.Inst{}))}} {
		for _, p := range layers() {
			for _, fault := range []bool{false, true} {
				if _, e := p.run(c, fault); e != api.OK {
					t.Errorf("%s, fault %v: %d", p.name, fault, e)
				}
			}
		}
	}
}

// roomy: the same list with spare room, in which something stands.
func roomy[T any](from []T, room T) []T {
	to := append(make([]T, 0, len(from)+3), from...)
	for k := len(to); k < cap(to); k++ {
		to[:cap(to)][k] = room
	}
	return to
}

// withRoom: the same code with spare room in all of its lists.
func withRoom(c api.Code) api.Code {
	c = ir.Copy(c)
	for i := range c.Fns {
		f := &c.Fns[i]
		for j := range f.Parts {
			p := &f.Parts[j]
			for k := range p.Insts {
				p.Insts[k].Args = roomy(p.Insts[k].Args, 77)
			}
			p.Insts = roomy(p.Insts, api.Inst{Op: 77})
		}
		f.Parts = roomy(f.Parts, api.Part{Next: 77})
		f.Slots = roomy(f.Slots, 77)
	}
	c.Globals, c.Inits, c.Fns = roomy(c.Globals, 77), roomy(c.Inits, 77), roomy(c.Fns, api.Fn{Regs: 77})
	return c
}

// lists are all those of a code, by what stands in them, as far as they have room.
type lists struct {
	numbers [][]int
	inits   [][]int64
	insts   [][]api.Inst
	parts   [][]api.Part
	fns     [][]api.Fn
}

func all[T any](l []T) []T { return l[:cap(l)] }

func (l *lists) add(c api.Code) {
	l.numbers = append(l.numbers, all(c.Globals))
	l.inits = append(l.inits, all(c.Inits))
	l.fns = append(l.fns, all(c.Fns))
	for _, f := range all(c.Fns) {
		l.numbers = append(l.numbers, all(f.Slots))
		l.parts = append(l.parts, all(f.Parts))
		for _, p := range all(f.Parts) {
			l.insts = append(l.insts, all(p.Insts))
			for _, i := range all(p.Insts) {
				l.numbers = append(l.numbers, all(i.Args))
			}
		}
	}
}

// inner: code as it stands, spare room and all.
func inner(c api.Code) api.Code {
	c.Globals, c.Inits, c.Fns = slices.Clone(all(c.Globals)), slices.Clone(all(c.Inits)), slices.Clone(all(c.Fns))
	for i := range c.Fns {
		f := &c.Fns[i]
		f.Slots, f.Parts = slices.Clone(all(f.Slots)), slices.Clone(all(f.Parts))
		for j := range f.Parts {
			p := &f.Parts[j]
			p.Insts = slices.Clone(all(p.Insts))
			for k := range p.Insts {
				p.Insts[k].Args = slices.Clone(all(p.Insts[k].Args))
			}
		}
	}
	return c
}

// apart writes a number of its own at each place of these lists, and asks whether all are still there.
func apart[T any](t *testing.T, of [][]T, number func(*T) *int) {
	t.Helper()
	mark := func(each func(place *int, n int)) {
		n := 1000
		for _, l := range of {
			for k := range l {
				each(number(&l[k]), n)
				n++
			}
		}
	}
	mark(func(place *int, n int) { *place = n })
	mark(func(place *int, n int) {
		if *place != n {
			t.Fatal("two lists share memory")
		}
	})
}

func (l *lists) apart(t *testing.T) {
	t.Helper()
	apart(t, l.numbers, func(n *int) *int { return n })
	apart(t, l.insts, func(i *api.Inst) *int { return &i.B })
	apart(t, l.parts, func(p *api.Part) *int { return &p.Cond })
	apart(t, l.fns, func(f *api.Fn) *int { return &f.Regs })
	for _, list := range l.inits {
		for k := range list {
			list[k] = 99
		}
	}
}

// P2, and the rule of memory: the same code makes the same; it is neither changed nor kept, its spare room neither, and no list of an answer shares memory with it, with another list or with an earlier answer.
func TestMemory(t *testing.T) {
	r := rand.New(rand.NewSource(19))
	for n := range 3000 {
		c := []func(*rand.Rand) api.Code{madeUp, tangled, asking}[n%3](r)
		if n%10 == 0 {
			spoil(r, &c)
		}
		for _, p := range layers() {
			for _, fault := range []bool{false, true} {
				handed := withRoom(c)
				held := inner(handed)
				first, e := p.run(handed, fault)
				kept := inner(first)
				second, again := p.run(handed, fault)
				if e != again || !reflect.DeepEqual(kept, inner(second)) {
					t.Fatalf("%s(%+v, %v): two answers", p.name, c, fault)
				}
				if !reflect.DeepEqual(held, inner(handed)) {
					t.Fatalf("%s(%+v, %v): what was handed in is changed", p.name, c, fault)
				}
				var one, rest lists
				one.add(first)
				one.apart(t)
				if !reflect.DeepEqual(held, inner(handed)) || !reflect.DeepEqual(kept, inner(second)) {
					t.Fatalf("%s(%+v, %v): an answer shares memory", p.name, c, fault)
				}
				rest.add(handed)
				rest.apart(t)
				if !reflect.DeepEqual(kept, inner(second)) {
					t.Fatalf("%s(%+v, %v): what was handed in is kept", p.name, c, fault)
				}
				third, e := p.run(withRoom(c), fault)
				if e != again || !reflect.DeepEqual(kept, inner(third)) {
					t.Fatalf("%s(%+v, %v): an answer hangs on an earlier one", p.name, c, fault)
				}
			}
		}
	}
}

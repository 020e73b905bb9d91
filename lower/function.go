package lower

import (
	"burin/api"
	"burin/types"
)

// none: no part is at hand, as the last one has its end; no register is asked where a part goes on.
const none = -1

// function is one that is being made: instructions are put behind those of the part at hand.
type function struct {
	made  api.Fn
	homes []home // of its locals
	here  int    // the part at hand, or none
	loops int    // how many stand about the statement at hand
}

// home is where a local is kept: in a register, or in a slot.
type home struct {
	slot   bool
	number int
}

// begin: a function with homes for its locals. What is kept in a register can be known to the passes; but arrays, structs and what a Ref leads to must have addresses.
func begin(f types.Fn, led []bool) *function {
	b := &function{made: api.Fn{Params: f.Params, Regs: f.Params}}
	for i, local := range f.Locals {
		h := home{number: i}
		switch {
		case led[i] || local.Type.Kind == api.TArray || local.Type.Kind == api.TStruct:
			h = home{slot: true, number: len(b.made.Slots)}
			b.made.Slots = append(b.made.Slots, local.Cells)
		case i >= f.Params:
			h.number = b.register()
		}
		b.homes = append(b.homes, h)
	}
	b.here = b.part()
	for i, h := range b.homes[:f.Params] {
		if h.slot {
			b.put(api.Inst{Op: api.IStore, A: b.slot(h), B: i})
		}
	}
	return b
}

// register: a new one.
func (f *function) register() int {
	f.made.Regs++
	return f.made.Regs - 1
}

// part: a new one.
func (f *function) part() int {
	f.made.Parts = append(f.made.Parts, api.Part{})
	return len(f.made.Parts) - 1
}

// open: the part at hand; a new one, which no way leads to, behind a Ret: what stands there is code, too.
func (f *function) open() *api.Part {
	if f.here == none {
		f.here = f.part()
	}
	return &f.made.Parts[f.here]
}

func (f *function) put(i api.Inst) {
	p := f.open()
	p.Insts = append(p.Insts, i)
}

// reckon puts an instruction that writes a new register, and answers that.
func (f *function) reckon(i api.Inst) int {
	i.Dst = f.register()
	f.put(i)
	return i.Dst
}

// hold puts a number that is known in a register.
func (f *function) hold(dst int, v int64) {
	f.put(api.Inst{Op: api.IConst, Dst: dst, Imm: v})
}

// number: a new register that holds v.
func (f *function) number(v int64) int {
	dst := f.register()
	f.hold(dst, v)
	return dst
}

// slot: a register with the address of a home that is a slot.
func (f *function) slot(h home) int {
	return f.reckon(api.Inst{Op: api.ISlot, Imm: int64(h.number)})
}

// end ends the part at hand, and the call with what a register holds.
func (f *function) end(register int) {
	p := f.open()
	p.End, p.Cond = true, register
	f.here = none
}

// goOn ends the part at hand, if there is one: the way goes on at another.
func (f *function) goOn(to int) {
	if f.here == none {
		return
	}
	p := f.open()
	p.Cond, p.Next = none, to
	f.here = none
}

// branch ends the part at hand: the way goes on at one part, or at the other if the register is 0.
func (f *function) branch(register, to, other int) {
	p := f.open()
	p.Cond, p.Next, p.Else = register, to, other
	f.here = none
}

// fork puts code that is run where a register isn't 0, and code, if any, that is run where it is 0; what is put next is run behind either.
func (f *function) fork(register int, holds, fails func()) {
	first, behind := f.part(), f.part()
	second := behind
	if fails != nil {
		second = f.part()
	}
	f.branch(register, first, second)
	f.here = first
	holds()
	f.goOn(behind)
	if fails != nil {
		f.here = second
		fails()
		f.goOn(behind)
	}
	f.here = behind
}

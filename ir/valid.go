package ir

import (
	"burin/api"
	"burin/ints"
)

// Valid: is it right, and short enough? That it is too long is told first, whatever else is wrong with it.
func Valid(c api.Code) api.Errno {
	switch {
	case Count(c) > api.MaxInsts:
		return api.ErrLimit
	case !right(&c):
		return api.ErrForm
	}
	return api.OK
}

func right(c *api.Code) bool {
	last := len(c.Fns) - 1
	if last < 0 || c.Fns[last].Params != 0 {
		return false
	}
	if len(c.Inits) != len(c.Globals) || !room(c.Globals) {
		return false
	}
	for number := range c.Fns {
		if !function(c, number) {
			return false
		}
	}
	return true
}

// room: has each a cell at least, and all together MaxCells at most?
func room(cells []int) bool {
	left := api.MaxCells
	for _, n := range cells {
		if n < 1 || n > left { // a sum might not fit an int
			return false
		}
		left -= n
	}
	return true
}

// function needs not ask for registers below 0: they would be fewer than the parameters.
func function(c *api.Code, number int) bool {
	f := &c.Fns[number]
	if f.Params < 0 || f.Params > f.Regs || f.Regs > api.MaxRegs || len(f.Parts) == 0 || !room(f.Slots) {
		return false
	}
	for i := range f.Parts {
		p := &f.Parts[i]
		if !end(f, p) {
			return false
		}
		for j := range p.Insts {
			if !instruction(c, number, &p.Insts[j]) {
				return false
			}
		}
	}
	return true
}

// end: does a part end as it may?
func end(f *api.Fn, p *api.Part) bool {
	switch {
	case p.End:
		return below(p.Cond, f.Regs)
	case p.Cond < 0:
		return below(p.Next, len(f.Parts))
	}
	return below(p.Cond, f.Regs) && below(p.Next, len(f.Parts)) && below(p.Else, len(f.Parts))
}

func instruction(c *api.Code, number int, i *api.Inst) bool {
	f := &c.Fns[number]
	return known(i.Op) && ints.Form(i.Type) && written(f, i) && read(f, i) && immediate(c, number, i)
}

func written(f *api.Fn, i *api.Inst) bool {
	return !Dst(*i) || below(i.Dst, f.Regs)
}

// read asks A and B where they stand: Uses would make a list of each instruction's.
func read(f *api.Fn, i *api.Inst) bool {
	n := reads(i.Op)
	if n > 0 && !below(i.A, f.Regs) || n > 1 && !below(i.B, f.Regs) {
		return false
	}
	if i.Op != api.ICall {
		return true
	}
	for _, r := range i.Args {
		if !below(r, f.Regs) {
			return false
		}
	}
	return true
}

// immediate: is Imm, where it is looked at, one that may stand there?
func immediate(c *api.Code, number int, i *api.Inst) bool {
	switch i.Op {
	case api.ISlot:
		return below(i.Imm, int64(len(c.Fns[number].Slots)))
	case api.IGlobal:
		return below(i.Imm, int64(len(c.Globals)))
	case api.IIndex:
		return 1 <= i.Imm && i.Imm <= api.MaxCells
	case api.IOff:
		return below(i.Imm, api.MaxCells)
	case api.ICall:
		return below(i.Imm, int64(number)) && len(i.Args) == c.Fns[i.Imm].Params
	}
	return true
}

// below: is it a number from 0 on of so many?
func below[T int | int64](n, many T) bool { return 0 <= n && n < many }

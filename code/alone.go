package code

import (
	"slices"

	"burin/api"
)

// alone: right code that has, with the number that is answered, a function with the same registers, which are read and written in the same places; all that it calls is as short as can be. The layers that tell something of a function look through all of its code each time: to ask them of each function of the whole would take too long. It is never longer than the whole: that has all the functions for which short ones stand here.
func alone(f api.Fn) (api.Code, int) {
	var fns []api.Fn
	var found [api.MaxArgs + 1]int // by its parameters, behind how many functions the short one stands, itself counted
	short := func(params int) int64 {
		if found[params] == 0 {
			fns = append(fns, shortest(params))
			found[params] = len(fns)
		}
		return int64(found[params] - 1)
	}
	f.Slots, f.Parts = nil, slices.Clone(f.Parts)
	for n := range f.Parts {
		p := &f.Parts[n]
		p.Insts = slices.Clone(p.Insts)
		for k := range p.Insts {
			switch i := &p.Insts[k]; i.Op {
			case api.ISlot, api.IGlobal:
				*i = api.Inst{Op: api.IConst, Dst: i.Dst}
			case api.ICall:
				i.Imm = short(len(i.Args))
			}
		}
	}
	number := len(fns)
	fns = append(fns, f)
	if f.Params > 0 { // it can't be the last one
		fns = append(fns, shortest(0))
	}
	return api.Code{Fns: fns}, number
}

// shortest: a function of so many parameters that does nothing.
func shortest(params int) api.Fn {
	return api.Fn{Params: params, Regs: params + 1, Parts: []api.Part{{End: true, Cond: params}}}
}

package code

import (
	"slices"

	"burin/api"
	"burin/ir"
)

// dense: the same function, without those registers that are no parameters, and neither read nor written. It may have many more of them than instructions: to ask of each where it is kept would take too long.
func dense(f api.Fn) api.Fn {
	n := numbers{}
	for r := range f.Params {
		n.of(r)
	}
	f.Parts = slices.Clone(f.Parts)
	for k := range f.Parts {
		p := &f.Parts[k]
		p.Insts = slices.Clone(p.Insts)
		for j, i := range p.Insts {
			p.Insts[j] = n.inst(i)
		}
		if p.Cond >= 0 {
			p.Cond = n.of(p.Cond)
		}
	}
	f.Regs = len(n)
	return f
}

// numbers are new ones for registers, by the old ones, in the order in which these are first met.
type numbers map[int]int

func (n numbers) of(register int) int {
	number, ok := n[register]
	if !ok {
		number = len(n)
		n[register] = number
	}
	return number
}

// inst: the same instruction, with 0 for what it doesn't look at.
func (n numbers) inst(i api.Inst) api.Inst {
	to := api.Inst{Op: i.Op, Type: i.Type, Imm: i.Imm}
	reads := ir.Uses(i)
	for k, r := range reads {
		reads[k] = n.of(r)
	}
	switch {
	case i.Op == api.ICall:
		to.Args = reads
	case len(reads) == 2:
		to.A, to.B = reads[0], reads[1]
	case len(reads) == 1:
		to.A = reads[0]
	}
	if ir.Dst(i) {
		to.Dst = n.of(i.Dst)
	}
	return to
}

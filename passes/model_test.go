package passes

import (
	"reflect"
	"slices"

	"burin/api"
	"burin/ints"
	"burin/ir"
	"burin/run"
)

// What the chapters ask of a pass, a second way: each place looks back through the part for what wrote a register last.

// wroteLast: the place of the last one of these instructions that writes a register; -1, if none does.
func wroteLast(insts []api.Inst, register int) int {
	for at, i := range slices.Backward(insts) {
		writes := i.Op <= api.Ne || i.Op < api.IStore || i.Op == api.ICall
		if writes && i.Dst == register {
			return at
		}
	}
	return -1
}

// readBy: the places where an instruction names the registers that it reads.
func readBy(i *api.Inst) []*int {
	switch {
	case i.Op <= api.Ne, i.Op == api.IIndex, i.Op == api.IStore:
		return []*int{&i.A, &i.B}
	case i.Op == api.IConst, i.Op == api.ISlot, i.Op == api.IGlobal:
		return nil
	case i.Op == api.ICall:
		var l []*int
		for k := range i.Args {
			l = append(l, &i.Args[k])
		}
		return l
	}
	return []*int{&i.A}
}

// ahead: what an instruction answers, if it is one that is reckoned ahead and its numbers are known: by running it, with these numbers.
func ahead(before []api.Inst, i api.Inst) (int64, bool) {
	if i.Op > api.ICast || i.Op == api.IConst {
		return 0, false
	}
	alone := i
	alone.Dst = 9
	var insts []api.Inst
	for _, read := range readBy(&alone) {
		at := wroteLast(before, *read)
		if at < 0 || before[at].Op != api.IConst {
			return 0, false
		}
		*read = len(insts)
		insts = append(insts, api.Inst{Op: api.IConst, Dst: *read, Imm: before[at].Imm})
	}
	o, e := run.Run(api.Code{Fns: []api.Fn{{Regs: 10, Parts: []api.Part{{Insts: append(insts, alone), End: true, Cond: 9}}}}}, 9)
	return o.Exit, e == api.OK && o.Halted
}

// foldOf: what layer 16 makes of a part.
func foldOf(p *api.Part, fault bool) {
	for k, i := range p.Insts {
		v, ok := ahead(p.Insts[:k], i)
		if !ok {
			continue
		}
		if fault && i.Op == api.Add {
			v = ints.Wrap(i.Type, v+1)
		}
		p.Insts[k] = api.Inst{Op: api.IConst, Dst: i.Dst, Imm: v}
	}
}

// original: the register that one which was last written by an IMove from another one is read as; -1, if there is none.
func original(before []api.Inst, register int, fault bool) int {
	at := wroteLast(before, register)
	if at < 0 || before[at].Op != api.IMove || before[at].A == register {
		return -1
	}
	if wroteLast(before[at+1:], before[at].A) >= 0 && !fault {
		return -1
	}
	return before[at].A
}

// propOf: what layer 17 makes of a part.
func propOf(p *api.Part, fault bool) {
	follow := func(before []api.Inst, register *int) {
		for next := *register; next >= 0; next = original(before, next, fault) {
			*register = next
		}
	}
	for k := range p.Insts {
		for _, read := range readBy(&p.Insts[k]) {
			follow(p.Insts[:k], read)
		}
	}
	if p.End || p.Cond >= 0 {
		follow(p.Insts, &p.Cond)
	}
}

// looked: an instruction with nothing but what it looks at, if it is one of those that aren't reckoned twice.
func looked(i api.Inst) (api.Inst, bool) {
	switch {
	case i.Op <= api.Ne:
		return api.Inst{Op: i.Op, Type: i.Type, A: i.A, B: i.B}, true
	case i.Op == api.INeg, i.Op == api.INot, i.Op == api.IBang, i.Op == api.ICast:
		return api.Inst{Op: i.Op, Type: i.Type, A: i.A}, true
	case i.Op == api.IConst, i.Op == api.ISlot, i.Op == api.IGlobal:
		return api.Inst{Op: i.Op, Imm: i.Imm}, true
	case i.Op == api.IIndex:
		return api.Inst{Op: i.Op, A: i.A, B: i.B, Imm: i.Imm}, true
	case i.Op == api.IOff:
		return api.Inst{Op: i.Op, A: i.A, Imm: i.Imm}, true
	}
	return api.Inst{}, false
}

// sameSum: are two instructions the same to layer 18?
func sameSum(a, b api.Inst, fault bool) bool {
	a, ok := looked(a)
	b, also := looked(b)
	if !ok || !also {
		return false
	}
	other := b
	other.A, other.B = b.B, b.A
	return reflect.DeepEqual(a, b) || fault && b.Op <= api.Ne && reflect.DeepEqual(a, other)
}

// twin: the place of the instruction that has reckoned already what another one behind these would; -1, if there is none.
func twin(before []api.Inst, i api.Inst, fault bool) int {
	for at, first := range slices.Backward(before) {
		if !sameSum(first, i, fault) {
			continue
		}
		written := wroteLast(before[at+1:], first.Dst) >= 0
		for _, read := range readBy(&first) {
			written = written || *read == first.Dst || wroteLast(before[at+1:], *read) >= 0
		}
		if !written {
			return at
		}
	}
	return -1
}

// cseOf: what layer 18 makes of a part.
func cseOf(p *api.Part, fault bool) {
	for k, i := range p.Insts {
		if at := twin(p.Insts[:k], i, fault); at >= 0 {
			p.Insts[k] = api.Inst{Op: api.IMove, Dst: i.Dst, A: p.Insts[at].Dst}
		}
	}
}

// leftByFold: is there what P16.1 says is not left?
func leftByFold(p api.Part, _ bool) bool {
	for k, i := range p.Insts {
		if _, ok := ahead(p.Insts[:k], i); ok {
			return true
		}
	}
	return false
}

// leftByProp: is there what P17.1 says is not left; with the fault, P17.2?
func leftByProp(p api.Part, fault bool) bool {
	for k := range p.Insts {
		for _, read := range readBy(&p.Insts[k]) {
			if original(p.Insts[:k], *read, fault) >= 0 {
				return true
			}
		}
	}
	return p.Cond >= 0 && original(p.Insts, p.Cond, fault) >= 0
}

// leftByCse: is there what P18.1 says is not left; with the fault, P18.2?
func leftByCse(p api.Part, fault bool) bool {
	for k, i := range p.Insts {
		if twin(p.Insts[:k], i, fault) >= 0 {
			return true
		}
	}
	return false
}

// eachPart changes all parts of a copy.
func eachPart(c api.Code, change func(*api.Part)) api.Code {
	c = ir.Copy(c)
	for i := range c.Fns {
		for j := range c.Fns[i].Parts {
			change(&c.Fns[i].Parts[j])
		}
	}
	return c
}

// blank: what a pass must not change stays; what it may is 0.
func blankFold(p *api.Part) {
	for k := range p.Insts {
		p.Insts[k] = api.Inst{}
	}
}

func blankCse(p *api.Part) {
	for k, i := range p.Insts {
		p.Insts[k] = api.Inst{Dst: i.Dst}
	}
}

func blankProp(p *api.Part) {
	for k, i := range p.Insts {
		p.Insts[k] = api.Inst{Op: i.Op, Type: i.Type, Dst: i.Dst, Imm: i.Imm}
	}
	if p.End || p.Cond >= 0 {
		p.Cond = 0
	}
}

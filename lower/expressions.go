package lower

import (
	"burin/api"
	"burin/types"
)

// place is where a variable's number is kept: in a register, or in the cell whose address the register holds.
type place struct {
	register int
	cell     bool
}

// reaches: is it a variable that is read or written?
func reaches(n *api.Node) bool {
	switch n.Kind {
	case api.Var, api.Index, api.Member, api.Deref:
		return true
	}
	return false
}

func (l *lowering) place(n *api.Node) place {
	bind := l.info.Binds[l.enter()]
	switch n.Kind {
	case api.Index:
		which := l.value(&n.Kids[0])
		address, cells := l.address(bind)
		return place{l.reckon(api.Inst{Op: api.IIndex, A: address, B: which, Imm: int64(cells)}), true}
	case api.Member:
		address, _ := l.address(bind)
		return place{l.reckon(api.Inst{Op: api.IOff, A: address, Imm: int64(bind.Field)}), true}
	case api.Deref:
		return place{l.homes[bind.Index].number, true}
	}
	if bind.Where == types.ToLocal && !l.homes[bind.Index].slot {
		return place{l.homes[bind.Index].number, false}
	}
	address, _ := l.address(bind)
	return place{address, true}
}

// address: a register with the address of a variable's first cell, and how many cells there are. It is taken anew each time: so it is known in the part that needs it, and no register is kept for long.
func (l *lowering) address(b types.Bind) (register, cells int) {
	if b.Where == types.ToGlobal {
		return l.reckon(api.Inst{Op: api.IGlobal, Imm: int64(b.Index)}), l.code.Globals[b.Index]
	}
	h := l.homes[b.Index]
	return l.slot(h), l.made.Slots[h.number]
}

// value: a register that holds an expression's number. It is to be read alone, and ahead of the next write: it may be a variable's own.
func (l *lowering) value(n *api.Node) int {
	if reaches(n) {
		from := l.place(n)
		if !from.cell {
			return from.register
		}
		return l.reckon(api.Inst{Op: api.ILoad, A: from.register})
	}
	dst := l.register()
	l.into(n, dst)
	return dst
}

// into puts an expression's number in a register, which may be that of a variable that the expression reads: so on each way it is written last.
func (l *lowering) into(n *api.Node, dst int) {
	if reaches(n) {
		from := l.place(n)
		op := api.IMove
		if from.cell {
			op = api.ILoad
		}
		l.put(api.Inst{Op: op, Dst: dst, A: from.register})
		return
	}
	l.enter()
	switch n.Kind {
	case api.Lit:
		l.hold(dst, n.N)
	case api.Cast:
		l.put(api.Inst{Op: api.ICast, Type: n.Type.Int, Dst: dst, A: l.value(&n.Kids[0])})
	case api.Unary:
		l.unary(n, dst)
	case api.Binary:
		l.binary(n, dst)
	case api.Cond:
		asked := l.value(&n.Kids[0])
		l.fork(asked, func() { l.into(&n.Kids[1], dst) }, func() { l.into(&n.Kids[2], dst) })
	}
}

// typed: a register that holds an expression's number, and the type of that.
func (l *lowering) typed(n *api.Node) (register int, t byte) {
	t = l.info.Ints[l.next]
	return l.value(n), t
}

func (l *lowering) unary(n *api.Node, dst int) {
	ops := [...]byte{api.Neg: api.INeg, api.Not: api.INot, api.Bang: api.IBang}
	a, t := l.typed(&n.Kids[0])
	l.put(api.Inst{Op: ops[n.Op], Type: t, Dst: dst, A: a})
}

func (l *lowering) binary(n *api.Node, dst int) {
	a, t := l.typed(&n.Kids[0])
	second := &n.Kids[1]
	switch n.Op {
	case api.LAnd:
		l.fork(a, func() { l.truth(second, dst) }, func() { l.hold(dst, 0) })
	case api.LOr:
		l.fork(a, func() { l.hold(dst, 1) }, func() { l.truth(second, dst) })
	default:
		l.put(api.Inst{Op: n.Op, Type: t, Dst: dst, A: a, B: l.value(second)})
	}
}

// truth puts in a register whether an expression's number isn't 0.
func (l *lowering) truth(n *api.Node, dst int) {
	a, t := l.typed(n)
	isZero := l.reckon(api.Inst{Op: api.IBang, Type: t, A: a})
	l.put(api.Inst{Op: api.IBang, Type: api.I32, Dst: dst, A: isZero})
}

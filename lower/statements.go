package lower

import (
	"burin/api"
)

func (l *lowering) block(n *api.Node) {
	l.enter()
	for i := range n.Kids {
		l.statement(&n.Kids[i])
	}
}

func (l *lowering) statement(n *api.Node) {
	at := l.enter()
	switch n.Kind {
	case api.Let:
		l.let(n, l.homes[l.info.Binds[at].Index])
	case api.Set:
		l.set(n)
	case api.If:
		l.choice(n)
	case api.For:
		l.loop(n, l.homes[l.info.Binds[at].Index].number)
	case api.Print:
		l.put(api.Inst{Op: api.IPrint, A: l.value(&n.Kids[0])})
	case api.Call:
		l.call(n, l.info.Binds[at].Index)
	case api.Ret:
		l.end(l.value(&n.Kids[0]))
	}
}

func (l *lowering) let(n *api.Node, h home) {
	begins := len(n.Kids) == 1
	switch {
	case begins && h.slot:
		first := l.value(&n.Kids[0])
		l.put(api.Inst{Op: api.IStore, A: l.slot(h), B: first})
	case begins:
		l.into(&n.Kids[0], h.number)
	case h.slot:
		l.clear(h)
	default:
		l.hold(h.number, 0)
	}
}

// clear makes the cells of a slot 0. They are, when a call begins: outside of loops, where a Let isn't run twice in a call, nothing is to do.
func (l *lowering) clear(h home) {
	if l.loops == 0 {
		return
	}
	zero, cell := l.number(0), l.slot(h)
	l.put(api.Inst{Op: api.IStore, A: cell, B: zero})
	for range l.made.Slots[h.number] - 1 {
		l.put(api.Inst{Op: api.IOff, Dst: cell, A: cell, Imm: 1})
		l.put(api.Inst{Op: api.IStore, A: cell, B: zero})
	}
}

func (l *lowering) set(n *api.Node) {
	to := l.place(&n.Kids[0])
	if to.cell {
		l.put(api.Inst{Op: api.IStore, A: to.register, B: l.value(&n.Kids[1])})
		return
	}
	l.into(&n.Kids[1], to.register)
}

func (l *lowering) choice(n *api.Node) {
	asked := l.value(&n.Kids[0])
	var fails func()
	if len(n.Kids) == 3 {
		fails = func() { l.block(&n.Kids[2]) }
	}
	l.fork(asked, func() { l.block(&n.Kids[1]) }, fails)
}

// loop counts in the variable's register: no statement writes it, and no Ref leads there.
func (l *lowering) loop(n *api.Node, variable int) {
	head, body, behind := l.part(), l.part(), l.part()
	l.hold(variable, n.N)
	l.goOn(head)
	l.here = head
	again := l.reckon(api.Inst{Op: api.Lt, Type: api.I32, A: variable, B: l.number(n.M)})
	l.branch(again, body, behind)
	l.here = body
	l.loops++
	l.block(&n.Kids[0])
	l.loops--
	if l.here != none {
		// The greatest M is an I32 still, so that no such sum traps.
		l.put(api.Inst{Op: api.Add, Type: api.I32, Dst: variable, A: variable, B: l.number(1)})
		l.goOn(head)
	}
	l.here = behind
}

func (l *lowering) call(n *api.Node, callee int) {
	var to place
	arguments := n.Kids
	if n.N == 1 {
		to = l.place(&n.Kids[0])
		arguments = n.Kids[1:]
	}
	calls := api.Inst{Op: api.ICall, Dst: to.register, Imm: int64(callee)}
	for i := range arguments {
		calls.Args = append(calls.Args, l.argument(&arguments[i]))
	}
	if n.N == 1 && !to.cell {
		l.put(calls)
		return
	}
	answer := l.reckon(calls)
	if to.cell {
		l.put(api.Inst{Op: api.IStore, A: to.register, B: answer})
	}
}

// argument: what a Ref leads to is always a cell, whose address is handed on.
func (l *lowering) argument(n *api.Node) int {
	if n.Kind == api.Ref {
		l.enter()
		return l.place(&n.Kids[0]).register
	}
	return l.value(n)
}

package eval

import (
	"burin/api"
	"burin/ints"
	"burin/mem"
)

// runner is a run: what it has done so far, and what the variables hold.
type runner struct {
	memory *mem.Mem // a block for each variable that is open
	fuel   int
	steps  int
	trace  []int64
}

func (r *runner) step() {
	if r.steps == r.fuel {
		panic(stop{spent: true})
	}
	r.steps++
}

// open gives a variable new cells, all 0. There is always room: what a statement opens is given back with the Block in which it stands, which isn't run twice at a time, and MaxNodes times MaxArray is below MaxCells.
func (r *runner) open(v *variable) {
	block, _ := r.memory.Alloc(v.cells)
	v.place = mem.Addr{Block: block}
}

// hold opens a variable with a number in its first cell.
func (r *runner) hold(v *variable, number int64) {
	r.open(v)
	r.memory.Store(v.place, number)
}

func (r *runner) program(n *node) int64 {
	for _, item := range n.kids {
		switch {
		case item.kind != api.Global:
		case len(item.kids) == 0:
			r.open(item.variable)
		default:
			r.hold(item.variable, item.kids[0].first)
		}
	}
	main := n.kids[len(n.kids)-1]
	answer, _ := r.block(main.function.body)
	return answer
}

// block runs the statements until one of them ends the call: then ended, and with that number.
func (r *runner) block(n *node) (answer int64, ended bool) {
	defer r.memory.Keep(r.memory.Blocks()) // what its statements open is given back with it
	for _, statement := range n.kids {
		if answer, ended = r.statement(statement); ended {
			return answer, true
		}
	}
	return 0, false
}

func (r *runner) statement(n *node) (answer int64, ended bool) {
	r.step()
	switch n.kind {
	case api.Let:
		r.let(n)
	case api.Set:
		place := r.place(n.kids[0])
		r.memory.Store(place, r.expression(n.kids[1]))
	case api.If:
		return r.choice(n)
	case api.For:
		return r.loop(n)
	case api.Print:
		r.trace = append(r.trace, r.expression(n.kids[0]))
	case api.Call:
		r.call(n)
	case api.Ret:
		return r.expression(n.kids[0]), true
	}
	return 0, false
}

func (r *runner) let(n *node) {
	if len(n.kids) == 0 {
		r.open(n.variable)
		return
	}
	r.hold(n.variable, r.expression(n.kids[0]))
}

func (r *runner) choice(n *node) (answer int64, ended bool) {
	if r.expression(n.kids[0]) != 0 {
		return r.block(n.kids[1])
	}
	if len(n.kids) == 3 {
		return r.block(n.kids[2])
	}
	return 0, false
}

func (r *runner) loop(n *node) (answer int64, ended bool) {
	r.open(n.variable)
	for round := n.first; round < n.last && !ended; round++ {
		r.step()
		r.memory.Store(n.variable.place, round)
		answer, ended = r.block(n.kids[0])
	}
	return answer, ended
}

func (r *runner) call(n *node) {
	takes := n.first == 1
	arguments := n.kids
	var taker mem.Addr
	if takes {
		taker = r.place(n.kids[0])
		arguments = n.kids[1:]
	}
	for i, argument := range arguments {
		r.pass(argument, &n.function.locals[i])
	}
	answer, _ := r.block(n.function.body)
	if takes {
		r.memory.Store(taker, answer)
	}
}

func (r *runner) pass(argument *node, parameter *variable) {
	if argument.kind == api.Ref {
		parameter.place = r.place(argument.kids[0])
		return
	}
	r.hold(parameter, r.expression(argument))
}

// place: the cell of a variable that is read or written.
func (r *runner) place(n *node) mem.Addr {
	r.step()
	place := n.variable.place
	switch n.kind {
	case api.Member:
		place.Off = n.field
	case api.Index:
		place.Off = int(r.expression(n.kids[0]))
		// The array has a block of its own, so the memory knows which cells there are.
		if _, e := r.memory.Load(place); e != api.OK {
			panic(stop{trap: api.TrapIndex})
		}
	}
	return place
}

func (r *runner) expression(n *node) int64 {
	switch n.kind {
	case api.Var, api.Index, api.Member, api.Deref:
		number, _ := r.memory.Load(r.place(n))
		return number
	}
	r.step()
	switch n.kind {
	case api.Lit:
		return n.first
	case api.Cast:
		return ints.Wrap(n.of, r.expression(n.kids[0]))
	case api.Unary:
		return sound(ints.Un(n.op, n.kids[0].of, r.expression(n.kids[0])))
	case api.Cond:
		if r.expression(n.kids[0]) != 0 {
			return r.expression(n.kids[1])
		}
		return r.expression(n.kids[2])
	}
	return r.binary(n)
}

func (r *runner) binary(n *node) int64 {
	left := r.expression(n.kids[0])
	switch {
	case n.op == api.LAnd && left == 0:
		return 0
	case n.op == api.LOr && left != 0:
		return 1
	}
	right := r.expression(n.kids[1])
	if n.op == api.LAnd || n.op == api.LOr {
		return truth(right != 0)
	}
	return sound(ints.Do(n.op, n.kids[0].of, left, right))
}

// sound gives up at a trap.
func sound(number int64, trap api.Trap) int64 {
	if trap != api.NoTrap {
		panic(stop{trap: trap})
	}
	return number
}

func truth(is bool) int64 {
	if is {
		return 1
	}
	return 0
}

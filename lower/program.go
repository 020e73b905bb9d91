package lower

import (
	"burin/api"
	"burin/tree"
	"burin/types"
)

// lowering goes through the nodes of a program that is right in the order of their numbers, which is also the order in which a run begins them.
type lowering struct {
	info      types.Info
	led       [][]bool
	next      int // the number of the node that is entered next
	code      api.Code
	*function // the one at hand
}

// led: of each function, by the numbers of its locals, those to which a Ref leads as a whole. They must have an address, which a register has not.
func led(n api.Node, info types.Info) [][]bool {
	kinds, _ := tree.List(n) // a program that is right is fine
	var all [][]bool
	for at, kind := range kinds {
		switch {
		case kind == api.Func:
			all = append(all, make([]bool, len(info.Fns[len(all)].Locals)))
		case kind == api.Ref && kinds[at+1] == api.Var && info.Binds[at+1].Where == types.ToLocal:
			all[len(all)-1][info.Binds[at+1].Index] = true
		}
	}
	return all
}

// enter answers the number of the node that is gone to.
func (l *lowering) enter() int {
	l.next++
	return l.next - 1
}

// skip leaves out a node with all that is within it.
func (l *lowering) skip(n *api.Node) { l.next += tree.Size(*n) }

func (l *lowering) program(n *api.Node) {
	l.enter()
	for i := range n.Kids {
		item := &n.Kids[i]
		switch item.Kind {
		case api.Func:
			l.funcItem(item)
		case api.Global:
			l.globalItem(item)
		default:
			l.skip(item)
		}
	}
}

func (l *lowering) globalItem(n *api.Node) {
	var first int64
	if len(n.Kids) == 1 {
		first = n.Kids[0].N
	}
	number := len(l.code.Globals)
	l.code.Globals = append(l.code.Globals, l.info.Globals[number].Cells)
	l.code.Inits = append(l.code.Inits, first)
	l.skip(n)
}

func (l *lowering) funcItem(n *api.Node) {
	l.enter()
	number := len(l.code.Fns)
	l.function = begin(l.info.Fns[number], l.led[number])
	last := len(n.Kids) - 1
	for i := range n.Kids[:last] {
		l.skip(&n.Kids[i])
	}
	l.block(&n.Kids[last])
	if l.here != none {
		l.end(l.number(0))
	}
	l.code.Fns = append(l.code.Fns, l.made)
}

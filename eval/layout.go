package eval

import (
	"burin/api"
	"burin/mem"
	"burin/types"
)

// node is a node of a program with what is known of it, so that a run, which leaves out nodes and comes back to them, needs none of their numbers.
type node struct {
	kind, op    byte
	of          byte  // the type of whole numbers that it has
	first, last int64 // N and M
	field       int
	variable    *variable
	function    *function
	kids        []*node
}

// variable: a function calls only those ahead of it, so none is run twice at a time, and one place is enough for each of its locals.
type variable struct {
	cells int
	place mem.Addr // of its first cell; of a ref that to which it leads
}

type function struct {
	locals []variable // the parameters first
	body   *node
}

// layout makes the nodes of a program that is right, in the order of their numbers.
type layout struct {
	info      types.Info
	next      int // the number of the node that is made next
	globals   []variable
	functions []function
	home      *function // in which the node at hand stands
}

func layOut(n *api.Node, info types.Info) *node {
	l := layout{info: info, globals: variables(info.Globals), functions: make([]function, len(info.Fns))}
	for i, f := range info.Fns {
		l.functions[i].locals = variables(f.Locals)
	}
	return l.node(n)
}

func variables(list []types.Local) []variable {
	made := make([]variable, len(list))
	for i, local := range list {
		made[i].cells = local.Cells
	}
	return made
}

func (l *layout) node(n *api.Node) *node {
	at := l.next
	l.next++
	bind := l.info.Binds[at]
	made := &node{kind: n.Kind, op: n.Op, of: l.info.Ints[at], first: n.N, last: n.M, field: bind.Field}
	switch bind.Where {
	case types.ToGlobal:
		made.variable = &l.globals[bind.Index]
	case types.ToLocal:
		made.variable = &l.home.locals[bind.Index]
	case types.ToFunc:
		made.function = &l.functions[bind.Index]
	}
	if n.Kind == api.Func {
		l.home = made.function
	}
	for i := range n.Kids {
		made.kids = append(made.kids, l.node(&n.Kids[i]))
	}
	if n.Kind == api.Func {
		l.home.body = made.kids[len(made.kids)-1]
	}
	return made
}

package safe

import (
	"burin/api"
	"burin/tree"
	"burin/types"
)

// fault is what a checker gives up with, by panic: the first rule that is broken, and the number of the node at which that is told.
type fault struct {
	at int
	e  api.Errno
}

// ask gives up where a rule is broken.
func ask(holds bool, at int, e api.Errno) {
	if !holds {
		panic(fault{at, e})
	}
}

// checker goes through the nodes of a program that is right in the order of their numbers; what is asked of a node is asked behind its kids.
// It gives up at the first Block or statement that has too many steps, so that no count of them grows beyond an int.
type checker struct {
	info  types.Info
	next  int        // the number of the node that is entered next
	costs []int      // of the functions that were gone through
	loops []api.Span // by the numbers of the locals of the function at hand: what a For's variable may hold
}

// enter answers the number of the node that is gone to.
func (c *checker) enter() int {
	c.next++
	return c.next - 1
}

// skip leaves out a node with all that is within it.
func (c *checker) skip(n *api.Node) { c.next += tree.Size(*n) }

func (c *checker) program(n *api.Node) {
	c.enter()
	for i := range n.Kids {
		if n.Kids[i].Kind == api.Func {
			c.function(&n.Kids[i])
		} else {
			c.skip(&n.Kids[i])
		}
	}
}

func (c *checker) function(n *api.Node) {
	c.enter()
	c.loops = make([]api.Span, len(c.home().Locals))
	last := len(n.Kids) - 1
	for i := range n.Kids[:last] {
		c.skip(&n.Kids[i])
	}
	c.costs = append(c.costs, c.block(&n.Kids[last]))
}

// home: the function at hand, the first whose steps aren't known.
func (c *checker) home() *types.Fn { return &c.info.Fns[len(c.costs)] }

// block answers its steps.
func (c *checker) block(n *api.Node) int {
	at := c.enter()
	steps := 0
	for i := range n.Kids {
		steps += c.statement(&n.Kids[i])
		ask(steps <= api.MaxSteps, at, api.ErrLimit)
	}
	return steps
}

// statement answers its steps.
func (c *checker) statement(n *api.Node) int {
	at := c.enter()
	steps := 1
	switch n.Kind {
	case api.If:
		steps += c.branches(n)
	case api.For:
		steps += c.rounds(n, at)
	case api.Call:
		steps += c.arguments(n) + c.costs[c.info.Binds[at].Index]
	default:
		for i := range n.Kids {
			steps += c.expression(&n.Kids[i]).steps
		}
	}
	ask(steps <= api.MaxSteps, at, api.ErrLimit)
	return steps
}

func (c *checker) branches(n *api.Node) int {
	asked := c.expression(&n.Kids[0]).steps
	most := 0
	for i := 1; i < len(n.Kids); i++ {
		most = max(most, c.block(&n.Kids[i]))
	}
	return asked + most
}

func (c *checker) rounds(n *api.Node, at int) int {
	if n.N == n.M {
		c.skip(&n.Kids[0])
		return 0
	}
	c.loops[c.info.Binds[at].Index] = api.Span{Low: n.N, High: n.M - 1}
	return int(n.M-n.N) * (1 + c.block(&n.Kids[0]))
}

// arguments goes through all kids of a Call, the one that takes the answer too.
func (c *checker) arguments(n *api.Node) int {
	steps := 0
	for i := range n.Kids {
		kid := &n.Kids[i]
		if kid.Kind == api.Ref {
			c.enter()
			kid = &kid.Kids[0]
		}
		steps += c.expression(kid).steps
	}
	return steps
}

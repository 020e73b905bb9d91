package types

import (
	"math"
	"slices"

	"burin/api"
	"burin/lex"
)

func (c *checker) block(n *api.Node) {
	at := c.enter()
	ask(n.Kind == api.Block, at, api.ErrForm)
	c.within(func() {
		for i := range n.Kids {
			c.statement(&n.Kids[i])
		}
	})
}

func (c *checker) statement(n *api.Node) {
	at := c.enter()
	switch n.Kind {
	case api.Let:
		c.letStatement(n, at)
	case api.Set:
		ask(len(n.Kids) == 2, at, api.ErrForm)
		c.typed(&n.Kids[1], c.written(&n.Kids[0]))
	case api.If:
		ask(len(n.Kids) == 2 || len(n.Kids) == 3, at, api.ErrForm)
		c.expression(&n.Kids[0])
		for i := 1; i < len(n.Kids); i++ {
			c.block(&n.Kids[i])
		}
	case api.For:
		c.forStatement(n, at)
	case api.Print:
		ask(len(n.Kids) == 1, at, api.ErrForm)
		c.expression(&n.Kids[0])
	case api.Ret:
		ask(len(n.Kids) == 1, at, api.ErrForm)
		c.typed(&n.Kids[0], whole(c.function().Int))
	case api.Call:
		c.callStatement(n, at)
	default:
		panic(fault{at, api.ErrForm})
	}
}

func (c *checker) letStatement(n *api.Node, at int) {
	v := c.variable(n, at)
	for i := range n.Kids {
		c.typed(&n.Kids[i], n.Type)
	}
	c.declareLocal(v, at)
}

func (c *checker) forStatement(n *api.Node, at int) {
	ask(len(n.Kids) == 1 && lex.Name(n.Name), at, api.ErrForm)
	// In this order the difference fits, whatever the numbers are.
	ask(0 <= n.N && n.N <= n.M && n.M <= math.MaxInt32 && n.M-n.N <= api.MaxLoop, at, api.ErrArg)
	c.within(func() {
		c.declareLocal(variable{name: n.Name, local: Local{Type: whole(api.I32), Cells: 1, Loop: true}}, at)
		c.block(&n.Kids[0])
	})
}

func (c *checker) callStatement(n *api.Node, at int) {
	ask(n.N == 0 || n.N == 1 && len(n.Kids) > 0, at, api.ErrForm)
	number := c.callee(n.Name, at)
	c.info.Binds[at] = Bind{Where: ToFunc, Index: number}
	f := c.info.Fns[number]
	arguments := n.Kids[n.N:]
	ask(len(arguments) == f.Params, at, api.ErrForm)
	if n.N == 1 {
		taker := c.next
		ask(c.written(&n.Kids[0]) == whole(f.Int), taker, api.ErrType)
	}
	for i := range arguments {
		c.argument(&arguments[i], f.Locals[i].Type)
	}
}

// callee: the number of the function of that name, which must stand ahead of the one at hand.
func (c *checker) callee(name string, at int) int {
	ahead := c.names[:len(c.names)-1]
	number := slices.Index(ahead, name)
	if number < 0 {
		later := slices.ContainsFunc(c.items, func(n api.Node) bool { return n.Kind == api.Func && n.Name == name })
		ask(!later, at, api.ErrCall)
		panic(fault{at, api.ErrName})
	}
	return number
}

func (c *checker) argument(n *api.Node, want api.Type) {
	at := c.next
	ask((n.Kind == api.Ref) == (want.Kind == api.TRef), at, api.ErrType)
	if n.Kind == api.Ref {
		ask(c.reference(n) == want, at, api.ErrType)
		return
	}
	c.typed(n, want)
}

func (c *checker) reference(n *api.Node) api.Type {
	at := c.enter()
	ask(len(n.Kids) == 1, at, api.ErrForm)
	t := c.written(&n.Kids[0])
	c.info.Ints[at] = t.Int
	return ref(t.Int)
}

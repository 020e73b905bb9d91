package safe

import (
	"burin/api"
	"burin/span"
	"burin/types"
)

// reckoned is what is known of an expression, or of a variable that is written.
type reckoned struct {
	span  api.Span
	steps int
}

// expression goes through one, or through a variable that is written: what is asked of that, and its steps, are the same.
func (c *checker) expression(n *api.Node) reckoned {
	at := c.enter()
	var kids [3]reckoned
	for i := range n.Kids {
		kids[i] = c.expression(&n.Kids[i])
	}
	return reckoned{c.spanOf(n, at, kids), stepsOf(n, kids)}
}

func stepsOf(n *api.Node, kids [3]reckoned) int {
	first, second, third := kids[0].steps, kids[1].steps, kids[2].steps
	if n.Kind == api.Cond {
		return 1 + first + max(second, third)
	}
	return 1 + first + second + third
}

func (c *checker) spanOf(n *api.Node, at int, kids [3]reckoned) api.Span {
	first, second, third := kids[0].span, kids[1].span, kids[2].span
	switch n.Kind {
	case api.Lit:
		return api.Span{Low: n.N, High: n.N}
	case api.Unary:
		made, never := span.Un(n.Op, c.typeOfFirst(at), first)
		ask(never, at, api.ErrUnsafe)
		return made
	case api.Binary:
		return c.binary(n.Op, at, first, second)
	case api.Cast:
		return span.Cast(n.Type.Int, first)
	case api.Cond:
		return span.Join(second, third)
	}
	return c.variable(n, at, first)
}

// typeOfFirst: a node's first kid has the number behind its own.
func (c *checker) typeOfFirst(at int) byte { return c.info.Ints[at+1] }

func (c *checker) binary(op byte, at int, a, b api.Span) api.Span {
	switch op {
	case api.LAnd:
		return truth(!span.Has(a, 0) && !span.Has(b, 0), isZero(a) || isZero(b))
	case api.LOr:
		return truth(!span.Has(a, 0) || !span.Has(b, 0), isZero(a) && isZero(b))
	}
	made, never := span.Do(op, c.typeOfFirst(at), a, b)
	ask(never, at, api.ErrUnsafe)
	return made
}

// variable: the span of the numbers that it may hold; place is that of an Index' kid.
func (c *checker) variable(n *api.Node, at int, place api.Span) api.Span {
	local := c.local(at)
	if n.Kind == api.Index {
		ask(span.In(place, api.Span{Low: 0, High: int64(local.Cells) - 1}), at, api.ErrUnsafe)
	}
	if local.Loop {
		return c.loops[c.info.Binds[at].Index]
	}
	return span.Full(c.info.Ints[at])
}

// local: what is known of the variable to which a node leads.
func (c *checker) local(at int) types.Local {
	bind := c.info.Binds[at]
	if bind.Where == types.ToGlobal {
		return c.info.Globals[bind.Index]
	}
	return c.home().Locals[bind.Index]
}

func isZero(s api.Span) bool { return s == api.Span{} }

// truth: the span of a truth that always holds, that never does, or of which neither is known.
func truth(always, never bool) api.Span {
	switch {
	case always:
		return api.Span{Low: 1, High: 1}
	case never:
		return api.Span{Low: 0, High: 0}
	}
	return api.Span{Low: 0, High: 1}
}

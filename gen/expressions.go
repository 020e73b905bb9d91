package gen

import (
	"burin/api"
	"burin/ints"
	"burin/tree"
)

// plan is an expression that is still without its kids, and what these are asked for; of no kids: there is no such expression.
type plan struct {
	node api.Node
	kids []want
}

// expression: one that is as wanted, with so many operations within one another at most, and so many nodes.
func (m *maker) expression(w want, depth, nodes int) api.Node {
	if depth > 0 && nodes > 1 {
		if p := m.plan(w, nodes); len(p.kids) > 0 && len(p.kids) < nodes {
			return m.fill(p, depth-1, nodes-1)
		}
	}
	return m.leaf(w, depth, nodes)
}

// fill makes the kids of a plan, each with its share of the nodes.
func (m *maker) fill(p plan, depth, nodes int) api.Node {
	n := p.node
	for i, w := range p.kids {
		kid := m.expression(w, depth, nodes/(len(p.kids)-i))
		n.Kids = append(n.Kids, kid)
		nodes -= tree.Size(kid)
	}
	return n
}

// leaf: a variable that is as wanted, else one that is cast; or a number.
func (m *maker) leaf(w want, depth, nodes int) api.Node {
	if list := m.readable(w, nodes); len(list) > 0 {
		if m.Below(5) < 4 {
			return m.place(list[m.Below(len(list))], depth, nodes)
		}
	} else if list := m.castable(w, nodes-1); len(list) > 0 && m.Below(3) < 2 {
		return castTo(w.t, m.place(list[m.Below(len(list))], depth, nodes-1))
	}
	return m.literal(w)
}

// literal: a number; often one at an edge, or near 0.
func (m *maker) literal(w want) api.Node {
	if w.low == w.high {
		return number(w.t, w.low)
	}
	v := int64(0)
	switch m.Pick([]int{8, 2, 1, 1, 3}) {
	case 0:
		v = int64(m.Below(12))
	case 1:
		v = -1 - int64(m.Below(12))
	case 2:
		v = w.low
	case 3:
		v = w.high
	case 4:
		v = w.low + int64(m.Below(int(w.high-w.low)+1))
	}
	return number(w.t, min(max(v, w.low), w.high))
}

// usedInt: a type, more often one of which a variable is known.
func (m *maker) usedInt() byte {
	if list := m.sources(); len(list) > 0 && m.Below(3) < 2 {
		return list[m.Below(len(list))].holds.t
	}
	return m.anyInt()
}

// plan: where no variable is as wanted, one of another type, or an operation that makes it so, is more often asked for than a number alone.
func (m *maker) plan(w want, nodes int) plan {
	leaf, other := 10, 5
	if len(m.readable(w, nodes)) == 0 {
		leaf, other = 2, 10
	}
	truth := w.t == api.I32 && w.has(0) && w.has(1)
	switch m.Pick([]int{leaf, other, 3, 16, 2, 8 * one(truth)}) {
	case 1:
		return m.cast(w)
	case 2:
		op := []byte{api.Not, api.Neg}[m.Below(2)]
		return plan{api.Node{Kind: api.Unary, Op: op}, turned(op, w)}
	case 3:
		op := api.Add + byte(m.Below(10))
		return plan{api.Node{Kind: api.Binary, Op: op}, m.operands(op, w)}
	case 4:
		return plan{api.Node{Kind: api.Cond}, asked(whole(m.usedInt()), w, w)}
	case 5:
		return m.truth()
	}
	return plan{}
}

// cast: a number that is within the bounds, and one of the other type's, stays the same; any is one of the type's.
func (m *maker) cast(w want) plan {
	kid := whole(m.usedInt())
	if !w.free() {
		kid = kid.between(max(kid.low, w.low), min(kid.high, w.high))
	}
	return plan{api.Node{Kind: api.Cast, Type: integer(w.t)}, asked(kid)}
}

// truth: 0 or 1.
func (m *maker) truth() plan {
	op := api.Lt + byte(m.Below(9))
	switch {
	case op > api.LOr:
		return plan{api.Node{Kind: api.Unary, Op: api.Bang}, asked(whole(m.usedInt()))}
	case op >= api.LAnd:
		return plan{api.Node{Kind: api.Binary, Op: op}, asked(whole(m.usedInt()), whole(m.usedInt()))}
	}
	both := whole(m.usedInt())
	return plan{api.Node{Kind: api.Binary, Op: op}, asked(both, both)}
}

// operands: what the kids of an operation of two numbers, Add to Shr, are asked for.
func (m *maker) operands(op byte, w want) []want {
	switch op {
	case api.Add, api.Sub, api.Mul:
		return sum(op, w)
	case api.Div:
		return m.quotient(w)
	case api.Rem:
		return m.rest(w)
	case api.And, api.Or, api.Xor:
		return bitwise(op, w)
	}
	return m.shift(op, w)
}

// quotient: no divisor is 0 or -1; one that is 1 or more leads no farther from 0.
func (m *maker) quotient(w want) []want {
	if !w.has(0) {
		return nil
	}
	all := whole(w.t)
	if w.free() && ints.Signed(w.t) && m.Below(4) == 3 {
		return asked(w, w.between(all.low, -2))
	}
	return asked(w, w.between(1, all.high))
}

func (m *maker) rest(w want) []want {
	if !w.has(0) {
		return nil
	}
	divided, most := remainder(w)
	if !w.free() && m.Below(4) < 3 {
		return asked(divided, w.between(most, most))
	}
	return asked(divided, w.between(1, most))
}

// shift: the count has a type of its own.
func (m *maker) shift(op byte, w want) []want {
	count := whole(m.usedInt())
	switch {
	case w.wraps(), w.free() && op == api.Shr:
		return asked(w, count.between(0, int64(ints.Width(w.t))-1))
	case op == api.Shl:
		by := 1 + m.Below(3)
		return asked(shiftedUp(w, by), count.between(int64(by), int64(by)))
	}
	by := shiftedDown(w)
	if by == 0 {
		return nil
	}
	return asked(whole(w.t), count.between(int64(by), int64(by)))
}

// digest: a number of U32 that hangs on as many of the sources as the depth allows, and on their order.
func (m *maker) digest(list []source, depth, nodes int) api.Node {
	const least = 3 // of one source: a Cast, an Index, its number
	switch {
	case len(list) == 0 || depth < 1 || nodes < least:
		return number(api.U32, 0)
	case len(list) == 1 || depth < 2 || nodes < 1+2*least:
		return castTo(api.U32, m.place(list[0], 0, nodes-1))
	}
	half := len(list) / 2
	a := m.digest(list[:half], depth-1, (nodes-1)/2)
	return binary(api.Sub, a, m.digest(list[half:], depth-1, nodes-1-tree.Size(a)))
}

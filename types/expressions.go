package types

import (
	"burin/api"
	"burin/ints"
	"burin/lex"
)

// typed goes through an expression that must have that type.
func (c *checker) typed(n *api.Node, want api.Type) {
	at := c.next
	ask(c.expression(n) == want, at, api.ErrType)
}

func (c *checker) expression(n *api.Node) api.Type {
	at := c.enter()
	var t api.Type
	switch n.Kind {
	case api.Lit:
		ask(len(n.Kids) == 0 && isInt(n.Type) && ints.Fits(n.Type.Int, n.N), at, api.ErrForm)
		t = n.Type
	case api.Unary:
		ask(len(n.Kids) == 1 && api.Neg <= n.Op && n.Op <= api.Bang, at, api.ErrForm)
		t = c.expression(&n.Kids[0])
		if n.Op == api.Bang {
			t = whole(api.I32)
		}
	case api.Cast:
		ask(len(n.Kids) == 1 && isInt(n.Type), at, api.ErrForm)
		c.expression(&n.Kids[0])
		t = n.Type
	case api.Binary:
		ask(len(n.Kids) == 2 && api.Add <= n.Op && n.Op <= api.LOr, at, api.ErrForm)
		t = c.binary(n)
	case api.Cond:
		ask(len(n.Kids) == 3, at, api.ErrForm)
		c.expression(&n.Kids[0])
		t = c.expression(&n.Kids[1])
		c.typed(&n.Kids[2], t)
	default:
		return c.reach(n, at, false)
	}
	c.info.Ints[at] = t.Int
	return t
}

func (c *checker) binary(n *api.Node) api.Type {
	t := c.expression(&n.Kids[0])
	switch n.Op {
	case api.Shl, api.Shr, api.LAnd, api.LOr:
		c.expression(&n.Kids[1])
	default:
		c.typed(&n.Kids[1], t)
	}
	if n.Op >= api.Lt {
		return whole(api.I32)
	}
	return t
}

// written goes through a variable that must be one that can be written.
func (c *checker) written(n *api.Node) api.Type {
	return c.reach(n, c.enter(), true)
}

// reach goes through a variable that is read or written.
func (c *checker) reach(n *api.Node, at int, write bool) api.Type {
	kind, formed := leadsTo(n)
	ask(formed, at, api.ErrForm)
	place := c.find(n.Name)
	ask(place >= 0, at, api.ErrName)
	v := c.known[place]
	ask(v.local.Type.Kind == kind && !(write && v.local.Loop), at, api.ErrType)
	t := whole(v.local.Type.Int)
	if kind == api.TStruct {
		v.bind.Field = has(v.fields, n.Field)
		ask(v.bind.Field >= 0, at, api.ErrName)
		t = v.fields[v.bind.Field].Type
	}
	c.info.Binds[at] = v.bind
	c.info.Ints[at] = t.Int
	if kind == api.TArray {
		c.expression(&n.Kids[0])
	}
	return t
}

// leadsTo: the kind of type that the variable must have, and whether the node is of the form.
func leadsTo(n *api.Node) (kind byte, formed bool) {
	switch n.Kind {
	case api.Var:
		return api.TInt, len(n.Kids) == 0
	case api.Index:
		return api.TArray, len(n.Kids) == 1
	case api.Member:
		return api.TStruct, len(n.Kids) == 0 && lex.Name(n.Field)
	case api.Deref:
		return api.TRef, len(n.Kids) == 0
	}
	return 0, false
}

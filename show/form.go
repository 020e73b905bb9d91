package show

import (
	"burin/api"
	"burin/ints"
	"burin/lex"
	"burin/parse"
	"burin/tree"
)

// The functions of this file ask whether there is a text that is read as a node, where what their names say stands.

func program(n api.Node) bool {
	return n.Kind == api.Prog && only(n, api.Node{}) && each(n.Kids, item)
}

func item(n api.Node) bool {
	switch n.Kind {
	case api.Struct:
		return named(n, api.Node{}) && each(n.Kids, field)
	case api.Global:
		return variable(n, literal)
	case api.Func:
		return function(n)
	}
	return false
}

func field(n api.Node) bool {
	return n.Kind == api.Field && named(n, api.Node{Type: n.Type}) && whole(n.Type) && kids(n)
}

func function(n api.Node) bool {
	last := len(n.Kids) - 1
	return last >= 0 && named(n, api.Node{Type: n.Type}) && whole(n.Type) && each(n.Kids[:last], param) && block(n.Kids[last])
}

func param(n api.Node) bool {
	return n.Kind == api.Param && named(n, api.Node{Type: n.Type}) && (whole(n.Type) || ref(n.Type)) && kids(n)
}

// variable: first asks it of what an int begins with.
func variable(n api.Node, first func(api.Node) bool) bool {
	if n.Type == (api.Type{Kind: api.TStruct}) {
		return named(n, api.Node{Type: n.Type, Field: n.Field}) && lex.Name(n.Field) && kids(n)
	}
	if !named(n, api.Node{Type: n.Type}) {
		return false
	}
	return whole(n.Type) && (kids(n) || kids(n, first)) || array(n.Type) && kids(n)
}

func block(n api.Node) bool {
	return n.Kind == api.Block && only(n, api.Node{}) && each(n.Kids, statement)
}

func statement(n api.Node) bool {
	switch n.Kind {
	case api.Let:
		return variable(n, expression)
	case api.Set:
		return only(n, api.Node{}) && kids(n, lvalue, expression)
	case api.If:
		return only(n, api.Node{}) && (kids(n, expression, block) || kids(n, expression, block, block))
	case api.For:
		return named(n, api.Node{N: n.N, M: n.M}) && count(n.N) && count(n.M) && kids(n, block)
	case api.Print, api.Ret:
		return only(n, api.Node{}) && kids(n, expression)
	case api.Call:
		return call(n)
	}
	return false
}

func call(n api.Node) bool {
	switch {
	case !named(n, api.Node{N: n.N}):
		return false
	case n.N == 0:
		return each(n.Kids, argument)
	}
	return n.N == 1 && len(n.Kids) > 0 && lvalue(n.Kids[0]) && each(n.Kids[1:], argument)
}

func argument(n api.Node) bool {
	if n.Kind == api.Ref {
		return only(n, api.Node{}) && kids(n, lvalue)
	}
	return expression(n)
}

func lvalue(n api.Node) bool {
	switch n.Kind {
	case api.Var, api.Deref:
		return named(n, api.Node{}) && kids(n)
	case api.Index:
		return named(n, api.Node{}) && kids(n, expression)
	case api.Member:
		return named(n, api.Node{Field: n.Field}) && lex.Name(n.Field) && kids(n)
	}
	return false
}

func expression(n api.Node) bool {
	switch n.Kind {
	case api.Lit:
		return literal(n)
	case api.Unary:
		return only(n, api.Node{Op: n.Op}) && unarySign(n.Op) != "" && kids(n, expression)
	case api.Binary:
		_, strength := parse.Signs(n.Op)
		return only(n, api.Node{Op: n.Op}) && strength > 0 && kids(n, expression, expression)
	case api.Cast:
		return only(n, api.Node{Type: n.Type}) && whole(n.Type) && kids(n, expression)
	case api.Cond:
		return only(n, api.Node{}) && kids(n, expression, expression, expression)
	}
	return lvalue(n)
}

func literal(n api.Node) bool {
	return n.Kind == api.Lit && only(n, api.Node{Type: n.Type, N: n.N}) && whole(n.Type) && ints.Fits(n.Type.Int, n.N) && kids(n)
}

// only: is every field of n zero, but its Kind, its Kids, and those that are not zero in said?
func only(n, said api.Node) bool {
	said.Kind = n.Kind
	n.Kids = nil
	return tree.Same(n, said)
}

// named is only for a node that has a name, too.
func named(n, said api.Node) bool {
	said.Name = n.Name
	return lex.Name(n.Name) && only(n, said)
}

// kids: has n just so many kids, and does each of these hold for its own?
func kids(n api.Node, right ...func(api.Node) bool) bool {
	if len(n.Kids) != len(right) {
		return false
	}
	for i, holds := range right {
		if !holds(n.Kids[i]) {
			return false
		}
	}
	return true
}

func each(list []api.Node, right func(api.Node) bool) bool {
	for _, n := range list {
		if !right(n) {
			return false
		}
	}
	return true
}

func whole(t api.Type) bool { return t == api.Type{Int: t.Int} && ints.Form(t.Int) }

func ref(t api.Type) bool { return t == api.Type{Kind: api.TRef, Int: t.Int} && ints.Form(t.Int) }

func array(t api.Type) bool {
	return t.Kind == api.TArray && ints.Form(t.Int) && count(int64(t.N))
}

// count: can it be a length, or a number of a for?
func count(v int64) bool { return v >= 0 && ints.Fits(api.I32, v) }

package parse

import (
	"burin/api"
)

func (r *reader) program() api.Node {
	n := r.node(api.Node{Kind: api.Prog})
	for r.here().Kind != api.TokEnd {
		n.Kids = append(n.Kids, r.item())
	}
	return n
}

func (r *reader) item() api.Node {
	if r.try("struct") {
		name := r.name()
		if r.is("{") {
			n := r.node(api.Node{Kind: api.Struct, Name: name})
			n.Kids = r.repeated(r.field)
			return n
		}
		return r.structured(api.Global, name)
	}
	t := r.intType()
	name := r.name()
	if r.is("(") {
		return r.function(t, name)
	}
	return r.variable(api.Node{Kind: api.Global, Type: t, Name: name}, r.literal)
}

func (r *reader) field() api.Node {
	n := r.node(api.Node{Kind: api.Field, Type: r.intType(), Name: r.name()})
	r.need(";")
	return n
}

func (r *reader) function(t api.Type, name string) api.Node {
	n := r.node(api.Node{Kind: api.Func, Type: t, Name: name})
	n.Kids = append(r.listed(r.param), r.block())
	return n
}

func (r *reader) param() api.Node {
	t := r.intType()
	if r.try("*") {
		t.Kind = api.TRef
	}
	return r.node(api.Node{Kind: api.Param, Type: t, Name: r.name()})
}

// structured reads on behind the struct's name.
func (r *reader) structured(kind byte, of string) api.Node {
	n := r.node(api.Node{Kind: kind, Type: api.Type{Kind: api.TStruct}, Field: of, Name: r.name()})
	r.need(";")
	return n
}

// variable reads on behind the name of an int or an array; first reads what an int begins with.
func (r *reader) variable(n api.Node, first func() api.Node) api.Node {
	n = r.node(n)
	switch {
	case r.try("["):
		n.Type.Kind = api.TArray
		n.Type.N = int(r.count())
		r.need("]")
	case r.try("="):
		n.Kids = []api.Node{first()}
	}
	r.need(";")
	return n
}

func (r *reader) block() api.Node {
	n := r.node(api.Node{Kind: api.Block})
	n.Kids = r.repeated(r.statement)
	return n
}

func (r *reader) statement() api.Node {
	if r.isInt() {
		return r.variable(api.Node{Kind: api.Let, Type: r.intType(), Name: r.name()}, r.expression)
	}
	switch {
	case r.try("struct"):
		return r.structured(api.Let, r.name())
	case r.try("if"):
		return r.choice()
	case r.try("for"):
		return r.loop()
	case r.try("print"):
		n := r.node(api.Node{Kind: api.Print})
		n.Kids = []api.Node{r.bracketed()}
		r.need(";")
		return n
	case r.try("return"):
		n := r.node(api.Node{Kind: api.Ret})
		n.Kids = []api.Node{r.expression()}
		r.need(";")
		return n
	}
	return r.assignment()
}

func (r *reader) choice() api.Node {
	n := r.node(api.Node{Kind: api.If})
	n.Kids = []api.Node{r.bracketed(), r.block()}
	if r.try("else") {
		n.Kids = append(n.Kids, r.block())
	}
	return n
}

func (r *reader) loop() api.Node {
	n := r.node(api.Node{Kind: api.For, Name: r.name()})
	r.need("=")
	n.N = r.count()
	r.need("to")
	n.M = r.count()
	n.Kids = []api.Node{r.block()}
	return n
}

func (r *reader) assignment() api.Node {
	if r.calls() {
		return r.call(api.Node{Kind: api.Call})
	}
	left := r.lvalue()
	r.need("=")
	if r.calls() {
		return r.call(api.Node{Kind: api.Call, N: 1, Kids: []api.Node{left}})
	}
	n := r.node(api.Node{Kind: api.Set})
	n.Kids = []api.Node{left, r.expression()}
	r.need(";")
	return n
}

// calls: does a call stand at hand? No expression has a bracket behind a name.
func (r *reader) calls() bool {
	return r.here().Kind == api.TokName && r.tokens[r.next+1].Text == "("
}

// call reads a call, whose kids are those that stand ahead of its arguments.
func (r *reader) call(n api.Node) api.Node {
	n = r.node(n)
	n.Name = r.name()
	n.Kids = append(n.Kids, r.listed(r.argument)...)
	r.need(";")
	return n
}

func (r *reader) argument() api.Node {
	if !r.try("&") {
		return r.expression()
	}
	n := r.node(api.Node{Kind: api.Ref})
	n.Kids = []api.Node{r.lvalue()}
	return n
}

func (r *reader) lvalue() api.Node {
	if r.try("*") {
		return r.node(api.Node{Kind: api.Deref, Name: r.name()})
	}
	n := r.node(api.Node{Kind: api.Var, Name: r.name()})
	switch {
	case r.try("["):
		n.Kind = api.Index
		n.Kids = []api.Node{r.expression()}
		r.need("]")
	case r.try("."):
		n.Kind = api.Member
		n.Field = r.name()
	}
	return n
}

func (r *reader) bracketed() api.Node {
	r.need("(")
	n := r.expression()
	r.need(")")
	return n
}

func (r *reader) expression() api.Node {
	first := r.binary(1)
	if !r.try("?") {
		return first
	}
	n := r.node(api.Node{Kind: api.Cond})
	second := r.expression()
	r.need(":")
	n.Kids = []api.Node{first, second, r.expression()}
	return n
}

// binary reads unarys with signs between that bind at least so strongly.
func (r *reader) binary(least int) api.Node {
	left := r.unary()
	for {
		op, strength := r.operation()
		if strength < least {
			return left
		}
		r.take()
		n := r.node(api.Node{Kind: api.Binary, Op: op})
		n.Kids = []api.Node{left, r.binary(strength + 1)}
		left = n
	}
}

// operation: the operation whose sign is at hand, and how strongly it binds; else 0, 0.
func (r *reader) operation() (byte, int) {
	for op := range operations {
		if sign, strength := Signs(byte(op)); strength > 0 && r.is(sign) {
			return byte(op), strength
		}
	}
	return 0, 0
}

func (r *reader) unary() api.Node {
	switch {
	case r.try("-"):
		return r.prefixed(api.Node{Kind: api.Unary, Op: api.Neg})
	case r.try("~"):
		return r.prefixed(api.Node{Kind: api.Unary, Op: api.Not})
	case r.try("!"):
		return r.prefixed(api.Node{Kind: api.Unary, Op: api.Bang})
	case r.try("("):
		return r.opened()
	case r.here().Kind == api.TokNumber:
		return r.literal()
	}
	return r.lvalue()
}

// prefixed reads what stands behind a sign of one number, or behind a cast.
func (r *reader) prefixed(n api.Node) api.Node {
	n = r.node(n)
	n.Kids = []api.Node{r.unary()}
	return n
}

// opened reads on behind a bracket: a cast, or an expression with brackets about it.
func (r *reader) opened() api.Node {
	if r.isInt() {
		t := r.intType()
		r.need(")")
		return r.prefixed(api.Node{Kind: api.Cast, Type: t})
	}
	n := r.expression()
	r.need(")")
	return n
}

func (r *reader) literal() api.Node {
	token := r.number()
	return r.node(api.Node{Kind: api.Lit, Type: api.Type{Kind: api.TInt, Int: token.Int}, N: token.N})
}

package types

import (
	"slices"

	"burin/api"
	"burin/lex"
)

func (c *checker) program(n *api.Node) {
	at := c.enter()
	ask(n.Kind == api.Prog && endInMain(n.Kids), at, api.ErrForm)
	c.items = n.Kids
	for i := range n.Kids {
		c.item(&n.Kids[i])
	}
}

func endInMain(items []api.Node) bool {
	if len(items) == 0 {
		return false
	}
	last := &items[len(items)-1]
	return last.Kind == api.Func && last.Name == "main" && last.Type == whole(api.I32) && len(last.Kids) == 1 && last.Kids[0].Kind == api.Block
}

func (c *checker) item(n *api.Node) {
	at := c.enter()
	switch n.Kind {
	case api.Struct:
		c.structItem(n, at)
	case api.Global:
		c.globalItem(n, at)
	case api.Func:
		c.funcItem(n, at)
	default:
		panic(fault{at, api.ErrForm})
	}
}

func (c *checker) structItem(n *api.Node, at int) {
	ask(lex.Name(n.Name) && 1 <= len(n.Kids) && len(n.Kids) <= api.MaxFields, at, api.ErrForm)
	ask(has(c.structs, n.Name) < 0, at, api.ErrTwice)
	for i := range n.Kids {
		field, at := &n.Kids[i], c.enter()
		ask(field.Kind == api.Field && lex.Name(field.Name) && isInt(field.Type) && len(field.Kids) == 0, at, api.ErrForm)
		ask(has(n.Kids[:i], field.Name) < 0, at, api.ErrTwice)
	}
	c.structs = append(c.structs, *n)
}

func (c *checker) globalItem(n *api.Node, at int) {
	v := c.variable(n, at)
	for i := range n.Kids {
		ask(n.Kids[i].Kind == api.Lit, c.next, api.ErrForm)
		c.typed(&n.Kids[i], n.Type)
	}
	ask(!slices.Contains(c.names, n.Name), at, api.ErrTwice)
	c.declareGlobal(v, at)
}

func (c *checker) funcItem(n *api.Node, at int) {
	last := len(n.Kids) - 1
	ask(lex.Name(n.Name) && isInt(n.Type) && 0 <= last && last <= api.MaxArgs, at, api.ErrForm)
	ask(!slices.Contains(c.names, n.Name) && c.find(n.Name) < 0, at, api.ErrTwice)
	c.info.Binds[at] = Bind{Where: ToFunc, Index: len(c.names)}
	c.info.Fns = append(c.info.Fns, Fn{Node: at, Params: last, Int: n.Type.Int})
	c.names = append(c.names, n.Name)
	c.within(func() {
		for i := range n.Kids[:last] {
			c.param(&n.Kids[i])
		}
		c.block(&n.Kids[last])
	})
}

func (c *checker) param(n *api.Node) {
	at := c.enter()
	ask(n.Kind == api.Param && lex.Name(n.Name) && (isInt(n.Type) || isRef(n.Type)) && len(n.Kids) == 0, at, api.ErrForm)
	c.declareLocal(variable{name: n.Name, local: Local{Type: n.Type, Cells: 1}}, at)
}

// variable asks the form of a Global or a Let, and what its type is: what it begins with, and its name, come behind that.
func (c *checker) variable(n *api.Node, at int) variable {
	ask(lex.Name(n.Name) && (len(n.Kids) == 0 || len(n.Kids) == 1 && n.Type.Kind == api.TInt), at, api.ErrForm)
	v := variable{name: n.Name, local: Local{Type: n.Type, Cells: 1}}
	switch {
	case isInt(n.Type) && n.Field == "":
	case isArray(n.Type) && n.Field == "":
		v.local.Cells = n.Type.N
	default:
		ask(isStruct(n.Type) && lex.Name(n.Field), at, api.ErrForm)
		place := has(c.structs, n.Field)
		ask(place >= 0, at, api.ErrName)
		v.fields = c.structs[place].Kids
		v.local.Cells = len(v.fields)
	}
	return v
}

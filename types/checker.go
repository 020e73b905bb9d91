package types

import (
	"slices"

	"burin/api"
	"burin/ints"
)

// fault is what a checker gives up with, by panic: the first rule that doesn't hold, and the number of the node at which it is said.
type fault struct {
	at int
	e  api.Errno
}

// ask gives up where a rule doesn't hold.
func ask(holds bool, at int, e api.Errno) {
	if !holds {
		panic(fault{at, e})
	}
}

// checker goes through the nodes of a program in the order of their numbers, each once; all that it has gone through were right.
type checker struct {
	info    Info
	next    int        // the number of the node that is entered next
	items   []api.Node // of the whole program
	structs []api.Node // that stand ahead of the node at hand
	names   []string   // of the functions in info
	known   []variable // in all scopes that are open, those of the innermost last
	scope   int        // the place in known from which on the innermost scope's stand
}

type variable struct {
	name   string
	bind   Bind
	local  Local
	fields []api.Node // of a struct
}

// enter answers the number of the node that is gone to.
func (c *checker) enter() int {
	c.next++
	return c.next - 1
}

// within goes through what stands in a scope of its own.
func (c *checker) within(body func()) {
	outer, begin := c.scope, len(c.known)
	c.scope = begin
	body()
	c.scope, c.known = outer, c.known[:begin]
}

// find: the place in known of the variable for which a name stands, or -1.
func (c *checker) find(name string) int {
	for i := len(c.known) - 1; i >= 0; i-- {
		if c.known[i].name == name {
			return i
		}
	}
	return -1
}

// declare makes a variable known in the innermost scope.
func (c *checker) declare(v variable, at int) {
	ask(c.find(v.name) < c.scope, at, api.ErrTwice)
	c.info.Binds[at] = v.bind
	c.known = append(c.known, v)
}

func (c *checker) declareGlobal(v variable, at int) {
	v.bind = Bind{Where: ToGlobal, Index: len(c.info.Globals)}
	c.declare(v, at)
	c.info.Globals = append(c.info.Globals, v.local)
}

func (c *checker) declareLocal(v variable, at int) {
	f := c.function()
	v.bind = Bind{Where: ToLocal, Index: len(f.Locals)}
	c.declare(v, at)
	f.Locals = append(f.Locals, v.local)
}

// function: the one at hand.
func (c *checker) function() *Fn { return &c.info.Fns[len(c.info.Fns)-1] }

// has: the place of the first node of that name, or -1.
func has(list []api.Node, name string) int {
	return slices.IndexFunc(list, func(n api.Node) bool { return n.Name == name })
}

// whole: the type of an int.
func whole(t byte) api.Type { return api.Type{Kind: api.TInt, Int: t} }

// ref: the type of what leads to an int.
func ref(t byte) api.Type { return api.Type{Kind: api.TRef, Int: t} }

func isInt(t api.Type) bool { return t == whole(t.Int) && ints.Form(t.Int) }

func isRef(t api.Type) bool { return t == ref(t.Int) && ints.Form(t.Int) }

func isArray(t api.Type) bool {
	return t.Kind == api.TArray && ints.Form(t.Int) && 1 <= t.N && t.N <= api.MaxArray
}

func isStruct(t api.Type) bool { return t == api.Type{Kind: api.TStruct} }

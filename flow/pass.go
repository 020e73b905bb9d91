package flow

import (
	"burin/api"
)

// classes are the parts by where they lead to: one without instructions whose ways all lead to one part leads there itself. Of each class one part stands for all.
type classes struct {
	parts []api.Part
	up    []int   // another part of the class; itself, at the class's root
	head  []int   // by roots, the part that stands for the class
	from  [][]int // by roots, branches without instructions one of whose ways leads to the class
	todo  []int   // parts whose ways may have come to lead to one part
}

// passBy makes all parts that stand for others go on at such ones; it tells which one stands for the first.
func passBy(parts []api.Part) int {
	c := newClasses(parts)
	for len(c.todo) > 0 {
		n := c.todo[len(c.todo)-1]
		c.todo = c.todo[:len(c.todo)-1]
		c.look(n)
	}
	for n := range parts {
		p := &parts[n]
		if p.End {
			continue
		}
		next, other := c.ends(p)
		if p.Next, p.Else = c.head[next], c.head[other]; next == other {
			goOn(p, p.Next)
		}
	}
	return c.head[c.root(0)]
}

func newClasses(parts []api.Part) *classes {
	c := &classes{parts: parts, up: make([]int, len(parts)), head: make([]int, len(parts)), from: make([][]int, len(parts))}
	for n := range parts {
		c.up[n], c.head[n] = n, n
		p := &parts[n]
		if p.End || len(p.Insts) > 0 {
			continue
		}
		c.todo = append(c.todo, n)
		if branches(p) {
			c.from[p.Next] = append(c.from[p.Next], n)
			c.from[p.Else] = append(c.from[p.Else], n)
		}
	}
	return c
}

func (c *classes) root(n int) int {
	for c.up[n] != n {
		c.up[n] = c.up[c.up[n]] // the way is half as long the next time
		n = c.up[n]
	}
	return n
}

// ends: the classes to which the ways of a part lead; twice the same, if it only goes on.
func (c *classes) ends(p *api.Part) (int, int) {
	next := c.root(p.Next)
	if p.Cond < 0 {
		return next, next
	}
	return next, c.root(p.Else)
}

// look: is a part without instructions one that stands for itself no more? One that leads to itself goes round, and stays.
func (c *classes) look(n int) {
	own := c.root(n)
	next, other := c.ends(&c.parts[n])
	if next == other && next != own {
		c.unite(own, next)
	}
}

// unite: all that led to one class lead to another one. Of the branches that lead to them, those of the class with fewer are looked at: so none is looked at often.
func (c *classes) unite(class, other int) {
	head := c.head[other]
	if len(c.from[class]) > len(c.from[other]) {
		class, other = other, class
	}
	c.up[class] = other
	c.head[other] = head
	c.todo = append(c.todo, c.from[class]...)
	c.from[other] = append(c.from[other], c.from[class]...)
	c.from[class] = nil
}

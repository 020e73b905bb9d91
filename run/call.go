package run

import (
	"burin/api"
)

// call is a call of a function that is open.
type call struct {
	*registers
	function *api.Fn
	first    int // the block of its first slot
}

// call runs a function with the arguments that are ready.
func (r *runner) call(number int) (int64, ending) {
	c := call{&r.registers[number], &r.code.Fns[number], r.memory.Blocks()}
	for _, cells := range c.function.Slots {
		if _, e := r.memory.Alloc(cells); e != api.OK {
			return 0, ending{trap: api.TrapForm}
		}
	}
	c.begin(r.arguments)
	answer, over := r.parts(&c)
	c.end()
	r.memory.Keep(c.first)
	return answer, over
}

// parts runs them from the first on, until one is an end.
func (r *runner) parts(c *call) (int64, ending) {
	p := &c.function.Parts[0]
	for {
		for i := range p.Insts {
			if over := r.instruction(c, &p.Insts[i]); over != (ending{}) {
				return 0, over
			}
		}
		if !r.step() {
			return 0, ending{spent: true}
		}
		if p.End {
			return c.get(p.Cond), ending{}
		}
		p = &c.function.Parts[next(c, p)]
	}
}

func next(c *call, p *api.Part) int {
	if p.Cond >= 0 && c.get(p.Cond) == 0 {
		return p.Else
	}
	return p.Next
}

// ready gets the arguments of a call ready, which are moved into its own registers when it begins.
func (r *runner) ready(c *call, args []int) {
	r.arguments = r.arguments[:0]
	for _, a := range args {
		r.arguments = append(r.arguments, c.get(a))
	}
}

// registers are those of a function: while it isn't open all of them are 0, but the parameters, which each call writes over. They reach as far as one was written, so that those that are never written cost nothing.
type registers struct {
	held  []int64
	wrote []int // which came to be other than 0: to end a call takes no longer than the call did
}

func (g *registers) begin(arguments []int64) {
	g.reach(len(arguments))
	copy(g.held, arguments)
}

func (g *registers) end() {
	for _, number := range g.wrote {
		g.held[number] = 0
	}
	g.wrote = g.wrote[:0]
}

func (g *registers) get(number int) int64 {
	if number >= len(g.held) {
		return 0
	}
	return g.held[number]
}

func (g *registers) set(number int, v int64) {
	g.reach(number + 1)
	if g.held[number] == 0 && v != 0 {
		g.wrote = append(g.wrote, number)
	}
	g.held[number] = v
}

func (g *registers) reach(many int) {
	if many > len(g.held) {
		g.held = append(g.held, make([]int64, many-len(g.held))...)
	}
}

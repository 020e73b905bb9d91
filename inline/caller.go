package inline

import (
	"burin/api"
	"burin/ir"
)

// caller is a function in which calls are done: its parts keep their numbers, those that a call needs come behind them.
type caller struct {
	*api.Fn
	bodies []*body
	fault  bool
	here   int // the part that instructions are put in
}

func doCalls(f *api.Fn, bodies []*body, fault bool) {
	c := caller{Fn: f, bodies: bodies, fault: fault}
	for n := range f.Parts { // those of calls, which are put behind, aren't gone through
		c.part(n)
	}
}

// part puts a part's instructions anew. Behind a call it may go on in another part, which has its end then.
func (c *caller) part(n int) {
	p := c.Parts[n]
	c.here = n
	c.Parts[n].Insts = nil
	for _, i := range p.Insts {
		if b := c.body(i); b != nil {
			c.call(i, b)
		} else {
			c.put(i)
		}
	}
	p.Insts = c.Parts[c.here].Insts
	c.Parts[c.here] = p
}

// body: what is to be done in the place of an instruction; nil, if it stays.
func (c *caller) body(i api.Inst) *body {
	if i.Op != api.ICall {
		return nil
	}
	return c.bodies[i.Imm]
}

// call does a call in the place of an instruction, in new registers, which hold what those of the function do when it is called.
func (c *caller) call(i api.Inst, b *body) {
	base := c.Regs
	c.Regs += b.Regs
	c.begin(i.Args, b, base)
	if b.straight() {
		c.copyPart(&b.Parts[0], base)
		c.put(answer(i, &b.Parts[0], base))
		return
	}
	first := len(c.Parts)
	behind := first + len(b.Parts)
	c.goOn(api.Part{Cond: -1, Next: first})
	c.Parts = append(c.Parts, make([]api.Part, len(b.Parts)+1)...)
	for n := range b.Parts {
		p := &b.Parts[n]
		c.here = first + n
		c.copyPart(p, base)
		switch {
		case p.End:
			c.put(answer(i, p, base))
			c.goOn(api.Part{Cond: -1, Next: behind})
		case p.Cond < 0:
			c.goOn(api.Part{Cond: -1, Next: first + p.Next})
		default:
			c.goOn(api.Part{Cond: base + p.Cond, Next: first + p.Next, Else: first + p.Else})
		}
	}
	c.here = behind
}

// begin moves the arguments to where the function reads them, and makes 0 of what it expects to be.
func (c *caller) begin(args []int, b *body, base int) {
	last := len(args) - 1
	for n, from := range args {
		if c.fault {
			from = args[last-n]
		}
		c.put(api.Inst{Op: api.IMove, Dst: base + n, A: from})
	}
	for _, r := range b.unset {
		c.put(api.Inst{Op: api.IConst, Dst: base + r})
	}
}

// copyPart puts the instructions of a function's part, in the caller's registers from base on.
func (c *caller) copyPart(p *api.Part, base int) {
	for _, i := range p.Insts {
		c.put(inRegisters(i, base))
	}
}

// inRegisters: the same instruction in registers from base on. What it doesn't look at is 0: it may have been any number. As it is no ICall it reads at most two.
func inRegisters(i api.Inst, base int) api.Inst {
	to := api.Inst{Op: i.Op, Type: i.Type, Imm: i.Imm}
	if ir.Dst(i) {
		to.Dst = base + i.Dst
	}
	reads := ir.Uses(i)
	if len(reads) > 0 {
		to.A = base + reads[0]
	}
	if len(reads) > 1 {
		to.B = base + reads[1]
	}
	return to
}

// answer: what a part with which a function ends does for the call.
func answer(call api.Inst, p *api.Part, base int) api.Inst {
	return api.Inst{Op: api.IMove, Dst: call.Dst, A: base + p.Cond}
}

func (c *caller) put(i api.Inst) {
	p := &c.Parts[c.here]
	p.Insts = append(p.Insts, i)
}

// goOn ends the part at hand as another one ends.
func (c *caller) goOn(end api.Part) {
	end.Insts = c.Parts[c.here].Insts
	c.Parts[c.here] = end
}

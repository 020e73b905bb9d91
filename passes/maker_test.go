package passes

import (
	"math/rand"

	"burin/api"
	"burin/ir"
)

// maker makes right code at random: of any instructions, in few registers.
type maker struct {
	*rand.Rand
	code api.Code
	more int // so many registers more than those few
}

func (m *maker) cells() []int {
	var l []int
	for range m.Intn(4) {
		l = append(l, 1+m.Intn(4))
	}
	return l
}

// number: mostly a small one, or one about the edge of a type; else any.
func (m *maker) number() int64 {
	switch m.Intn(6) {
	case 0:
		return m.Int63() >> m.Intn(62) * int64(1-2*m.Intn(2))
	case 1:
		return int64(1)<<(7+m.Intn(27)) + int64(m.Intn(3)) - 1
	}
	return int64(m.Intn(12)) - 3
}

// op: any, but most often an IConst, an IMove, an Add or an IPrint.
func (m *maker) op() byte {
	switch m.Intn(12) {
	case 0, 1:
		return api.IMove
	case 2, 3:
		return api.IConst
	case 4:
		return api.Add
	case 5:
		return 20 + byte(m.Intn(14))
	case 6, 7:
		return api.IPrint
	}
	return 1 + byte(m.Intn(16))
}

func (m *maker) inst(f *api.Fn, number int) api.Inst {
	reg := func() int { return m.Intn(f.Regs) }
	i := api.Inst{Op: m.op(), Type: byte(m.Intn(6)), Dst: reg(), A: reg(), B: reg(), Imm: m.number()}
	choose := func(many int) {
		if i.Imm = int64(m.Intn(many + 1)); i.Imm == int64(many) {
			i.Op = api.IPrint // there is none to choose, or not this time
		}
	}
	switch i.Op {
	case api.ISlot:
		choose(len(f.Slots))
	case api.IGlobal:
		choose(len(m.code.Globals))
	case api.IIndex:
		i.Imm = 1 + int64(m.Intn(4))
	case api.IOff:
		i.Imm = int64(m.Intn(4))
	case api.ICall:
		if choose(number); i.Op == api.ICall {
			for range m.code.Fns[i.Imm].Params {
				i.Args = append(i.Args, reg())
			}
		}
	}
	return m.noise(i)
}

// noise puts any numbers where an instruction doesn't look.
func (m *maker) noise(i api.Inst) api.Inst {
	any := func() int { return m.Intn(9) - 2 + m.Intn(2)*m.Intn(1<<40) }
	switch i.Op {
	case api.IConst, api.ISlot, api.IGlobal, api.ICall:
		i.A, i.B = any(), any()
	case api.IMove, api.INeg, api.INot, api.IBang, api.ICast, api.IOff, api.ILoad:
		i.B = any()
	case api.IPrint:
		i.Dst, i.B = any(), any()
	case api.IStore:
		i.Dst = any()
	}
	if i.Op != api.ICall && m.Intn(3) == 0 {
		i.Args = []int{any(), any()}
	}
	return i
}

// again: one of a part's last instructions once more, mostly into another register, and perhaps printed; its numbers may come in the other order.
func (m *maker) again(f *api.Fn, insts []api.Inst) []api.Inst {
	i := insts[len(insts)-1-m.Intn(min(len(insts), 4))]
	i.Args = append([]int(nil), i.Args...)
	if ir.Dst(i) {
		i.Dst = m.Intn(f.Regs)
	}
	switch m.Intn(6) {
	case 0, 1:
		if len(ir.Uses(i)) == 2 {
			i.A, i.B = i.B, i.A
		}
	case 2:
		i.Type = byte(m.Intn(6))
	}
	l := []api.Inst{m.noise(i)}
	if ir.Dst(i) && m.Intn(2) == 0 {
		l = append(l, api.Inst{Op: api.IPrint, A: i.Dst})
	}
	return l
}

// lead gets an address into a register ahead of an instruction that looks there, so that not nearly all of them trap.
func (m *maker) lead(f *api.Fn, i api.Inst) []api.Inst {
	if i.Op != api.ILoad && i.Op != api.IStore || m.Intn(12) == 0 {
		return []api.Inst{i}
	}
	lead := api.Inst{Op: api.IMove, Dst: i.A, A: i.A}
	if n := len(f.Slots); n > 0 {
		lead = api.Inst{Op: api.ISlot, Dst: i.A, Imm: int64(m.Intn(n))}
	} else if n := len(m.code.Globals); n > 0 {
		lead = api.Inst{Op: api.IGlobal, Dst: i.A, Imm: int64(m.Intn(n))}
	} else {
		i.Op = api.IPrint
	}
	return []api.Inst{lead, i}
}

// first gives some registers a number, so that not nearly all are 0.
func (m *maker) first(f *api.Fn) []api.Inst {
	var l []api.Inst
	for register := range f.Regs {
		if m.Intn(3) > 0 {
			l = append(l, api.Inst{Op: api.IConst, Dst: register, Imm: m.number()})
		}
	}
	return l
}

func (m *maker) function(number int, last bool) {
	f := api.Fn{Regs: 1 + m.Intn(6) + m.more, Slots: m.cells(), Parts: make([]api.Part, 1+m.Intn(5))}
	if !last {
		f.Params = m.Intn(f.Regs + 1)
	}
	for i := range f.Parts {
		p := &f.Parts[i]
		if i == 0 {
			p.Insts = m.first(&f)
		}
		for range m.Intn(14) {
			if len(p.Insts) > 0 && m.Intn(5) == 0 {
				p.Insts = append(p.Insts, m.again(&f, p.Insts)...)
				continue
			}
			p.Insts = append(p.Insts, m.lead(&f, m.inst(&f, number))...)
		}
		p.Next, p.Else, p.Cond = m.Intn(len(f.Parts)), m.Intn(len(f.Parts)), m.Intn(f.Regs+1)-1
		if p.End = m.Intn(3) == 0; p.End {
			p.Cond = m.Intn(f.Regs)
		}
		if !p.End && p.Cond < 0 {
			p.Cond, p.Else = -1-m.Intn(9), m.Intn(99)-9
		}
	}
	m.code.Fns = append(m.code.Fns, f)
}

func madeUp(r *rand.Rand) api.Code { return madeOf(maker{Rand: r}) }

// crowded: right code at random in so many registers that not all of a function are in the machine's.
func crowded(r *rand.Rand) api.Code { return madeOf(maker{Rand: r, more: r.Intn(30)}) }

func madeOf(m maker) api.Code {
	m.code.Globals = m.cells()
	for range m.code.Globals {
		m.code.Inits = append(m.code.Inits, m.number())
	}
	many := 1 + m.Intn(4)
	for number := range many {
		m.function(number, number == many-1)
	}
	return m.code
}

// spoil changes a number or two of code, mostly so that it isn't right any more.
func spoil(r *rand.Rand, c *api.Code) {
	for range 1 + r.Intn(2) {
		n := []int{-1, -1 << 63, 1<<63 - 1, 0, 3, 7, api.MaxCells, api.MaxRegs + 1}[r.Intn(8)]
		f := &c.Fns[r.Intn(len(c.Fns))]
		p := &f.Parts[r.Intn(len(f.Parts))]
		places := []*int{&f.Params, &f.Regs, &p.Cond, &p.Next, &p.Else}
		if len(p.Insts) > 0 {
			i := &p.Insts[r.Intn(len(p.Insts))]
			places = append(places, &i.Dst, &i.A, &i.B)
			switch r.Intn(6) {
			case 0:
				i.Op = byte(r.Intn(256))
			case 1:
				i.Type = byte(r.Intn(256))
			case 2:
				i.Imm = int64(n)
			case 3:
				i.Args = append(i.Args, n)
			}
		}
		*places[r.Intn(len(places))] = n
	}
}

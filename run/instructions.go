package run

import (
	"burin/api"
	"burin/ints"
	"burin/mem"
)

func (r *runner) instruction(c *call, i *api.Inst) ending {
	if !r.step() {
		return ending{spent: true}
	}
	var v int64
	var over ending
	switch i.Op {
	case api.IPrint:
		r.trace = append(r.trace, c.get(i.A))
		return over
	case api.IStore:
		return ending{trap: r.store(c.get(i.A), c.get(i.B))}
	case api.ILoad:
		v, over.trap = r.load(c.get(i.A))
	case api.ICall:
		r.ready(c, i.Args)
		v, over = r.call(int(i.Imm))
	default:
		v, over.trap = c.reckon(i)
	}
	if over == (ending{}) {
		c.set(i.Dst, v)
	}
	return over
}

// reckon: what an instruction answers that looks at registers alone; at no others than its own ones, as the rest may be any numbers.
func (c *call) reckon(i *api.Inst) (int64, api.Trap) {
	switch i.Op {
	case api.IConst:
		return i.Imm, api.NoTrap
	case api.IMove:
		return c.get(i.A), api.NoTrap
	case api.INeg:
		return ints.Un(api.Neg, i.Type, c.get(i.A))
	case api.INot:
		return ints.Un(api.Not, i.Type, c.get(i.A))
	case api.IBang:
		return ints.Un(api.Bang, i.Type, c.get(i.A))
	case api.ICast:
		return ints.Wrap(i.Type, c.get(i.A)), api.NoTrap
	case api.ISlot:
		return (int64(c.first) + i.Imm) * Page, api.NoTrap
	case api.IGlobal:
		return i.Imm * Page, api.NoTrap
	case api.IIndex:
		return index(c.get(i.A), c.get(i.B), i.Imm)
	case api.IOff:
		return c.get(i.A) + i.Imm, api.NoTrap
	}
	return ints.Do(i.Op, i.Type, c.get(i.A), c.get(i.B))
}

func index(address, place, length int64) (int64, api.Trap) {
	if place < 0 || place >= length {
		return 0, api.TrapIndex
	}
	return address + place, api.NoTrap
}

func (r *runner) load(address int64) (int64, api.Trap) {
	v, e := r.memory.Load(cell(address))
	return v, missing(e)
}

func (r *runner) store(address, v int64) api.Trap {
	return missing(r.memory.Store(cell(address), v))
}

// cell: where a number leads; one below 0 leads to a block below 0, where there is none.
func cell(address int64) mem.Addr {
	return mem.Addr{Block: int(address >> pageBits), Off: int(address & (Page - 1))}
}

// missing: the trap of a cell that there is not.
func missing(e api.Errno) api.Trap {
	if e != api.OK {
		return api.TrapForm
	}
	return api.NoTrap
}

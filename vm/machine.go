package vm

import (
	"slices"

	"burin/api"
	"burin/code"
	"burin/ints"
)

// machine is a run of an image.
type machine struct {
	memory
	image code.Image
	calls []call // those that are open; behind them stand some that were, whose lists are used again
	exit  int64  // what the first call answers
	trace []int64
}

func newMachine(im code.Image) *machine {
	cells := slices.Clone(im.Data)
	return &machine{image: im, memory: memory{cells: cells, many: len(cells)}}
}

// run: when no call is open any more the run has halted.
func (m *machine) run(fuel int) api.Outcome {
	var o api.Outcome
	o.Trap = m.begin(len(m.image.Starts)-1, [api.MaxArgs]int64{}, 0)
	for o.Trap == api.NoTrap && len(m.calls) > 0 {
		if o.Steps == fuel {
			o.Fuel = true
			break
		}
		o.Steps++
		o.Trap = m.step()
	}
	if o.Halted = o.Trap == api.NoTrap && !o.Fuel; o.Halted {
		o.Exit = m.exit
	}
	o.Trace = m.trace
	return o
}

func (m *machine) step() api.Trap {
	c := &m.calls[len(m.calls)-1]
	w, ok := m.next(c)
	if !ok {
		return api.TrapForm
	}
	a, b := c.registers[w.A], c.registers[w.B]
	switch w.Op {
	case code.MCall:
		return m.begin(int(w.Imm), c.ready, w.D)
	case code.MRet:
		m.end(a)
	case code.MJump:
		c.place = int(w.Imm)
	case code.MZero:
		if a == 0 {
			c.place = int(w.Imm)
		}
	case code.MPrint:
		m.trace = append(m.trace, a)
	case code.MArg:
		return c.prepare(w.Imm, a)
	case code.MStore:
		return m.store(a, b)
	case code.MPut:
		return m.store(c.cell(w.Imm), a)
	default:
		v, trap := m.value(c, w, a, b)
		if trap == api.NoTrap {
			c.registers[w.D] = v
		}
		return trap
	}
	return api.NoTrap
}

// next: the word at a call's place, which goes on.
func (m *machine) next(c *call) (code.Word, bool) {
	if c.place >= len(m.image.Words) {
		return code.Word{}, false
	}
	w, e := code.Decode(m.image.Words[c.place])
	c.place++
	return w, e == api.OK && max(w.D, w.A, w.B) < api.Regs && ints.Form(w.Type)
}

// value: what an instruction that writes a register writes there. What is none at all is no operation of layer 1 either, which traps.
func (m *machine) value(c *call, w code.Word, a, b int64) (int64, api.Trap) {
	switch w.Op {
	case code.MNum:
		return ints.Wrap(w.Type, int64(w.Imm)), api.NoTrap
	case code.MMove:
		return a, api.NoTrap
	case code.MNeg:
		return ints.Un(api.Neg, w.Type, a)
	case code.MNot:
		return ints.Un(api.Not, w.Type, a)
	case code.MBang:
		return ints.Un(api.Bang, w.Type, a)
	case code.MCast:
		return ints.Wrap(w.Type, a), api.NoTrap
	case code.MFrame:
		return c.cell(w.Imm), api.NoTrap
	case code.MGlobal:
		return int64(w.Imm), api.NoTrap
	case code.MIndex:
		return index(a, b, int64(w.Imm))
	case code.MOff:
		return a + int64(w.Imm), api.NoTrap
	case code.MLoad:
		return m.load(a)
	case code.MGet:
		return m.load(c.cell(w.Imm))
	case code.MPar:
		return c.parameter(w.Imm)
	}
	return ints.Do(w.Op, w.Type, a, b)
}

func index(first, place, length int64) (int64, api.Trap) {
	if place < 0 || place >= length {
		return 0, api.TrapIndex
	}
	return first + place, api.NoTrap
}

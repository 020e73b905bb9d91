package vm

import (
	"sort"

	"burin/api"
)

// call is a call of a function that is open.
type call struct {
	registers [api.Regs]int64
	got       [api.MaxArgs]int64
	ready     [api.MaxArgs]int64
	place     int   // of the next word
	base      int   // its frame's first cell
	answer    byte  // the caller's register that takes what it answers
	wrote     []int // cells of its frame that came to be other than 0
}

// cell: the number of a cell of the frame, whether or not there is one.
func (c *call) cell(n uint32) int64 { return int64(c.base) + int64(n) }

func (c *call) prepare(n uint32, v int64) api.Trap {
	if n >= api.MaxArgs {
		return api.TrapForm
	}
	c.ready[n] = v
	return api.NoTrap
}

func (c *call) parameter(n uint32) (int64, api.Trap) {
	if n >= api.MaxArgs {
		return 0, api.TrapForm
	}
	return c.got[n], api.NoTrap
}

// begin calls a function with what was got ready.
func (m *machine) begin(number int, got [api.MaxArgs]int64, answer byte) api.Trap {
	if number >= len(m.image.Starts) || len(m.calls) == MaxCalls {
		return api.TrapForm
	}
	base := m.many
	if !m.grow(m.image.Frames[number]) {
		return api.TrapForm
	}
	c := m.open()
	c.got, c.place, c.base, c.answer = got, m.image.Starts[number], base, answer
	return api.NoTrap
}

// open: one more call, in which all is 0.
func (m *machine) open() *call {
	many := len(m.calls)
	if many == cap(m.calls) {
		m.calls = append(m.calls, call{})
	}
	m.calls = m.calls[:many+1]
	c := &m.calls[many]
	*c = call{wrote: c.wrote[:0]}
	return c
}

// end ends the last call. To forget its frame takes no longer than to write it did: a great one may have hardly been used.
func (m *machine) end(answer int64) {
	last := len(m.calls) - 1
	c := &m.calls[last]
	m.shrink(c.base, c.wrote)
	m.calls = m.calls[:last]
	if last == 0 {
		m.exit = answer
		return
	}
	m.calls[last-1].registers[c.answer] = answer
}

// store: a cell holds that. The call to whose frame it belongs must know, which may be another one than the last.
func (m *machine) store(cell, v int64) api.Trap {
	if !m.has(cell) {
		return api.TrapForm
	}
	if v != 0 && m.cells[cell] == 0 {
		if c := m.owner(int(cell)); c != nil {
			c.wrote = append(c.wrote, int(cell))
		}
	}
	m.cells[cell] = v
	return api.NoTrap
}

// owner: the call that has a cell in its frame; nil, if it is one of the globals'. It is the last one that begins at the cell or ahead of it: those that begin at the same place, ahead of it, have no cells.
func (m *machine) owner(cell int) *call {
	behind := sort.Search(len(m.calls), func(n int) bool { return m.calls[n].base > cell })
	if behind == 0 {
		return nil
	}
	return &m.calls[behind-1]
}

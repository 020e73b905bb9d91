package vm

import (
	"burin/api"
)

// memory is the globals' cells, and behind them those of the frames of all open calls.
type memory struct {
	cells []int64 // as far as there ever were some: those that are gone are 0
	many  int     // how many there are now
}

// grow: so many cells more, all 0, if there is room for them.
func (m *memory) grow(cells int) bool {
	if cells > api.MaxCells-m.many {
		return false
	}
	m.many += cells
	if more := m.many - len(m.cells); more > 0 {
		m.cells = append(m.cells, make([]int64, more)...)
	}
	return true
}

// shrink: only so many cells are left. Those that are gone were 0, but these.
func (m *memory) shrink(many int, wrote []int) {
	for _, cell := range wrote {
		m.cells[cell] = 0
	}
	m.many = many
}

func (m *memory) has(cell int64) bool { return 0 <= cell && cell < int64(m.many) }

func (m *memory) load(cell int64) (int64, api.Trap) {
	if !m.has(cell) {
		return 0, api.TrapForm
	}
	return m.cells[cell], api.NoTrap
}

package run

import (
	"math/rand"
	"reflect"
	"slices"
	"testing"

	"burin/api"
	"burin/ints"
	"burin/ir"
)

// open is a call of the model that is open: its registers, the number of its first block, and how far it is.
type open struct {
	fn       int
	regs     map[int]int64
	first    int
	part, at int
	dst      int // the caller's register that takes the answer
}

// model runs code a second way: calls stand on a list, registers and cells in maps, a cell by its address; it takes one step after the other.
type model struct {
	code  api.Code
	cells map[int64]int64 // those that were written
	sizes []int           // of the blocks
	calls []*open
	trace []int64
}

func (m *model) block(cells int) bool {
	m.sizes = append(m.sizes, cells)
	total := 0
	for _, n := range m.sizes {
		total += n
	}
	return total <= 65536
}

func (m *model) there(address int64) bool {
	block, off := address/1048576, address%1048576
	return address >= 0 && block < int64(len(m.sizes)) && off < int64(m.sizes[block])
}

func (m *model) begin(fn int, args []int64, dst int) bool {
	c := &open{fn: fn, regs: map[int]int64{}, first: len(m.sizes), dst: dst}
	for i, v := range args {
		c.regs[i] = v
	}
	m.calls = append(m.calls, c)
	for _, cells := range m.code.Fns[fn].Slots {
		if !m.block(cells) {
			return false
		}
	}
	return true
}

func (m *model) finish(c *open) {
	m.calls = m.calls[:len(m.calls)-1]
	m.sizes = m.sizes[:c.first]
	for address := range m.cells {
		if !m.there(address) {
			delete(m.cells, address)
		}
	}
}

func (m *model) run(fuel int) api.Outcome {
	for i, cells := range m.code.Globals {
		m.cells[int64(i)*1048576] = m.code.Inits[i]
		m.block(cells)
	}
	if !m.begin(len(m.code.Fns)-1, nil, 0) {
		return trapped(api.TrapForm, 0)
	}
	for steps := range fuel {
		c := m.calls[len(m.calls)-1]
		p := m.code.Fns[c.fn].Parts[c.part]
		if c.at < len(p.Insts) {
			c.at++
			if trap := m.inst(c, p.Insts[c.at-1]); trap != api.NoTrap {
				return trapped(trap, steps+1, m.trace...)
			}
			continue
		}
		if p.End {
			answer := c.regs[p.Cond]
			m.finish(c)
			if len(m.calls) == 0 {
				return halted(answer, steps+1, m.trace...)
			}
			m.calls[len(m.calls)-1].regs[c.dst] = answer
			continue
		}
		c.at, c.part = 0, p.Next
		if p.Cond >= 0 && c.regs[p.Cond] == 0 {
			c.part = p.Else
		}
	}
	return spent(fuel, m.trace...)
}

func (m *model) inst(c *open, i api.Inst) api.Trap {
	a, b := c.regs[i.A], c.regs[i.B]
	v, trap := int64(0), api.NoTrap
	switch i.Op {
	case 20:
		v = i.Imm
	case 21:
		v = a
	case 22, 23, 24:
		v, trap = ints.Un(i.Op-21, i.Type, a)
	case 25:
		v = ints.Wrap(i.Type, a)
	case 26:
		v = (int64(c.first) + i.Imm) * 1048576
	case 27:
		v = i.Imm * 1048576
	case 28:
		v = a + b
		if b < 0 || b > i.Imm-1 {
			trap = api.TrapIndex
		}
	case 29:
		v = a + i.Imm
	case 30, 31:
		if !m.there(a) {
			return api.TrapForm
		}
		if v = m.cells[a]; i.Op == 31 {
			m.cells[a] = b
			return trap
		}
	case 32:
		var args []int64
		for _, r := range i.Args {
			args = append(args, c.regs[r])
		}
		if !m.begin(int(i.Imm), args, i.Dst) {
			return api.TrapForm
		}
		return trap
	case 33:
		m.trace = append(m.trace, a)
		return trap
	default:
		v, trap = ints.Do(i.Op, i.Type, a, b)
	}
	if trap == api.NoTrap {
		c.regs[i.Dst] = v
	}
	return trap
}

// maker makes right code at random.
type maker struct {
	*rand.Rand
	code api.Code
}

func (m maker) cells() []int {
	var l []int
	for range m.Intn(4) {
		l = append(l, 1+m.Intn(4))
		if m.Intn(25) == 0 {
			l[len(l)-1] = 20000
		}
	}
	return l
}

func (m *maker) inst(f *api.Fn, number int) api.Inst {
	reg := func() int { return m.Intn(f.Regs) }
	i := api.Inst{Op: 1 + byte(m.Intn(16)), Type: byte(m.Intn(6)), Dst: reg(), A: reg(), B: reg()}
	if m.Intn(3) > 0 {
		i.Op = 20 + byte(m.Intn(14))
	}
	switch i.Op {
	case api.IConst:
		i.Imm = int64(m.Intn(5)) - 1
		if m.Intn(4) == 0 {
			i.Imm = m.Int63() >> m.Intn(60) * int64(1-2*m.Intn(2))
		}
	case api.ISlot:
		i.Imm = int64(m.Intn(len(f.Slots) + 1))
		if int(i.Imm) == len(f.Slots) {
			i.Op = api.IMove
		}
	case api.IGlobal:
		i.Imm = int64(m.Intn(len(m.code.Globals) + 1))
		if int(i.Imm) == len(m.code.Globals) {
			i.Op = api.IPrint
		}
	case api.IIndex:
		i.Imm = 1 + int64(m.Intn(4))
	case api.IOff:
		i.Imm = int64(m.Intn(4))
	case api.ICall:
		if i.Imm = int64(m.Intn(number + 1)); i.Imm == int64(number) {
			i.Op = api.IPrint
			break
		}
		for range m.code.Fns[i.Imm].Params {
			i.Args = append(i.Args, reg())
		}
	}
	return i
}

// lead gets an address into a register ahead of an instruction that looks there, so that not nearly all of them trap.
func (m *maker) lead(f *api.Fn, i api.Inst) []api.Inst {
	if i.Op != api.ILoad && i.Op != api.IStore || m.Intn(12) == 0 {
		return []api.Inst{i}
	}
	lead := api.Inst{Op: api.IMove, Dst: i.A, A: i.A}
	if n := len(f.Slots); n > 0 {
		lead = slot(i.A, int64(m.Intn(n)))
	} else if n := len(m.code.Globals); n > 0 {
		lead = global(i.A, int64(m.Intn(n)))
	} else {
		i.Op = api.IPrint
	}
	if m.Intn(2) == 0 {
		return []api.Inst{lead, i}
	}
	return []api.Inst{lead, off(i.A, i.A, int64(m.Intn(2))), i}
}

func (m *maker) function(number int, last bool) {
	f := api.Fn{Regs: 1 + m.Intn(6), Slots: m.cells(), Parts: make([]api.Part, 1+m.Intn(5))}
	if !last {
		f.Params = m.Intn(f.Regs + 1)
	}
	for i := range f.Parts {
		p := &f.Parts[i]
		for range m.Intn(6) {
			p.Insts = append(p.Insts, m.lead(&f, m.inst(&f, number))...)
		}
		p.Next, p.Else, p.Cond = m.Intn(len(f.Parts)), m.Intn(len(f.Parts)), m.Intn(f.Regs+1)-1
		if p.End = m.Intn(3) == 0; p.End {
			p.Cond = m.Intn(f.Regs)
		}
	}
	m.code.Fns = append(m.code.Fns, f)
}

func made(r *rand.Rand) api.Code {
	m := maker{Rand: r}
	m.code.Globals = m.cells()
	for range m.code.Globals {
		m.code.Inits = append(m.code.Inits, int64(m.Intn(7))-2)
	}
	many := 1 + m.Intn(4)
	for number := range many {
		m.function(number, number == many-1)
	}
	return m.code
}

// P14.1, P2: code made at random, with few steps and many, held against the model; the code is not changed, and what was answered stays.
func TestAgainstModel(t *testing.T) {
	r := rand.New(rand.NewSource(14))
	halts, spents, traps := 0, 0, map[api.Trap]int{}
	for range 20000 {
		c := made(r)
		if e := ir.Valid(c); e != api.OK {
			t.Fatalf("%+v: %d", c, e)
		}
		same := ir.Copy(c)
		for _, fuel := range []int{r.Intn(4), r.Intn(40), 400} {
			m := model{code: c, cells: map[int64]int64{}}
			want := m.run(fuel)
			o, e := Run(c, fuel)
			if e != api.OK || !alike(o, want) {
				t.Fatalf("%+v with a fuel of %d: %+v, %d; want %+v", c, fuel, o, e, want)
			}
			again, _ := Run(c, fuel)
			for i := range o.Trace {
				o.Trace[i] = 99
			}
			if !alike(again, want) || !reflect.DeepEqual(c, same) {
				t.Fatalf("%+v with a fuel of %d: %+v at the second time", c, fuel, again)
			}
			if o.Halted {
				halts++
			} else if o.Fuel {
				spents++
			}
			traps[o.Trap]++
		}
	}
	if halts < 5000 || spents < 5000 || len(traps) < 6 {
		t.Errorf("%d halted, %d spent, traps %v", halts, spents, traps)
	}
}

// P14.1: with more steps a run that was over ends alike; one that was spent begins with the same trace, and has taken all its steps.
func TestMoreSteps(t *testing.T) {
	r := rand.New(rand.NewSource(15))
	for range 3000 {
		c := made(r)
		before, _ := Run(c, 0)
		for fuel := 1; fuel < 120; fuel++ {
			o, e := Run(c, fuel)
			if e != api.OK || o.Steps > fuel || o.Fuel && o.Steps != fuel {
				t.Fatalf("%+v with a fuel of %d: %+v, %d", c, fuel, o, e)
			}
			if before.Fuel {
				n := len(before.Trace)
				if len(o.Trace) < n || len(o.Trace) > n+1 || !slices.Equal(o.Trace[:n], before.Trace) || o.Steps < before.Steps {
					t.Fatalf("%+v with a fuel of %d: %+v behind %+v", c, fuel, o, before)
				}
			} else if !alike(o, before) {
				t.Fatalf("%+v with a fuel of %d: %+v behind %+v", c, fuel, o, before)
			}
			before = o
		}
	}
}

// Rules: what is handed in may be written over behind the call, and no answer shares memory with it or with an earlier one.
func TestMemory(t *testing.T) {
	args := append(make([]int, 0, 5), 0, 1)
	insts := append(make([]api.Inst, 0, 9), num(0, 3), num(1, 4), calls(2, 0, args...), show(2), show(0))
	c := code(fn(2, 3, append(make([]int, 0, 4), 2), end(2, do(api.Add, api.I32, 2, 0, 1))), fn(0, 3, nil, end(2, insts...)))
	c.Globals, c.Inits = append(make([]int, 0, 3), 1), append(make([]int64, 0, 3), 5)
	want := halted(7, 8, 7, 3)
	first, _ := Run(c, 9)
	second, _ := Run(c, 9)
	first.Trace = append(first.Trace[:1], 55, 56, 57)
	if !alike(second, want) {
		t.Errorf("answers share memory: %+v", second)
	}
	if args[:5][4] != 0 || insts[:9][8].Op != 0 || c.Fns[0].Slots[:4][3] != 0 || c.Globals[:3][2] != 0 || c.Inits[:3][2] != 0 {
		t.Error("spare room was written to")
	}
	insts[0].Imm, args[0], c.Inits[0] = 9, 1, 8
	if !alike(second, want) {
		t.Errorf("an answer hangs on what was handed in: %+v", second)
	}
}

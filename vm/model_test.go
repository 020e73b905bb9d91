package vm

import (
	"math"
	"math/rand"
	"reflect"
	"slices"
	"testing"

	"burin/api"
	"burin/code"
	"burin/ints"
)

// open is a call of the model that is open.
type open struct {
	regs, got, ready map[uint64]int64
	place            uint64
	frame            []int64
	to               uint64
}

// model runs an image a second way: the globals and each frame are lists of their own, a word is taken apart by its weights.
type model struct {
	im    code.Image
	data  []int64
	calls []*open
	begun int // how many calls there ever were
	trace []int64
}

// cell: where a cell stands, from the globals on through all frames; nil, if there is none.
func (m *model) cell(n int64) *int64 {
	if n < 0 {
		return nil
	}
	lists := [][]int64{m.data}
	for _, c := range m.calls {
		lists = append(lists, c.frame)
	}
	for _, l := range lists {
		if n < int64(len(l)) {
			return &l[n]
		}
		n -= int64(len(l))
	}
	return nil
}

// base: how many cells there are ahead of the last frame.
func (m *model) base() int64 {
	n := len(m.data)
	for _, c := range m.calls[:len(m.calls)-1] {
		n += len(c.frame)
	}
	return int64(n)
}

func (m *model) call(fn uint64, got map[uint64]int64, to uint64) bool {
	if fn >= uint64(len(m.im.Starts)) || len(m.calls) >= 2000 {
		return false
	}
	m.begun++
	args := map[uint64]int64{}
	for k, v := range got {
		args[k] = v
	}
	m.calls = append(m.calls, &open{map[uint64]int64{}, args, map[uint64]int64{}, uint64(m.im.Starts[fn]), make([]int64, m.im.Frames[fn]), to})
	return m.base()+int64(m.im.Frames[fn]) <= 65536
}

func (m *model) run(fuel int) api.Outcome {
	m.data = slices.Clone(m.im.Data)
	if !m.call(uint64(len(m.im.Starts)-1), nil, 0) {
		return trapped(api.TrapForm, 0)
	}
	for steps := range fuel {
		answer, over, trap := m.step()
		switch {
		case trap != api.NoTrap:
			return trapped(trap, steps+1, m.trace...)
		case over && len(m.calls) == 0:
			return halted(answer, steps+1, m.trace...)
		}
	}
	return spent(fuel, m.trace...)
}

func (m *model) step() (answer int64, over bool, trap api.Trap) {
	c := m.calls[len(m.calls)-1]
	place := c.place
	if c.place++; place >= uint64(len(m.im.Words)) {
		return 0, false, api.TrapForm
	}
	v := m.im.Words[place]
	imm, none, b, a, d, typ, op := v%(1<<32), v>>32%256, v>>40%16, v>>44%16, v>>48%16, v>>52%16, v>>56
	if none != 0 || b > 7 || a > 7 || d > 7 || typ > 5 {
		return 0, false, api.TrapForm
	}
	n := int64(imm)
	switch op {
	case 32, 40:
		if n > 5 {
			return 0, false, api.TrapForm
		}
		if op == 40 {
			c.regs[d] = c.got[imm]
		} else {
			c.ready[imm] = c.regs[a]
		}
	case 33:
		if !m.call(imm, c.ready, d) {
			trap = api.TrapForm
		}
	case 34:
		m.trace = append(m.trace, c.regs[a])
	case 35, 36:
		if op == 35 || c.regs[a] == 0 {
			c.place = imm
		}
	case 37:
		m.calls = m.calls[:len(m.calls)-1]
		if len(m.calls) > 0 {
			m.calls[len(m.calls)-1].regs[c.to] = c.regs[a]
		}
		return c.regs[a], true, api.NoTrap
	case 30, 31, 38, 39:
		return 0, false, m.touch(c, op, d, a, b, n)
	default:
		var w int64
		if w, trap = m.value(c, byte(op), byte(typ), c.regs[a], c.regs[b], n); trap == api.NoTrap {
			c.regs[d] = w
		}
	}
	return 0, false, trap
}

func (m *model) touch(c *open, op, d, a, b uint64, n int64) api.Trap {
	at := c.regs[a]
	if op > 31 {
		at = m.base() + n
	}
	p := m.cell(at)
	switch {
	case p == nil:
		return api.TrapForm
	case op == 31:
		*p = c.regs[b]
	case op == 39:
		*p = c.regs[a]
	default:
		c.regs[d] = *p
	}
	return api.NoTrap
}

func (m *model) value(c *open, op, typ byte, a, b, n int64) (int64, api.Trap) {
	switch op {
	case 20:
		return ints.Wrap(typ, n), api.NoTrap
	case 21:
		return a, api.NoTrap
	case 22, 23, 24:
		return ints.Un(op-21, typ, a)
	case 25:
		return ints.Wrap(typ, a), api.NoTrap
	case 26:
		return m.base() + n, api.NoTrap
	case 27:
		return n, api.NoTrap
	case 28:
		if b < 0 || b > n-1 {
			return 0, api.TrapIndex
		}
		return a + b, api.NoTrap
	case 29:
		return a + n, api.NoTrap
	}
	if op < 1 || op > 16 {
		return 0, api.TrapForm
	}
	return ints.Do(op, typ, a, b)
}

// wild: a word of any kind: few bits, many, or a right one with one bit turned over.
func wild(r *rand.Rand) uint64 {
	switch r.Intn(3) {
	case 0:
		return r.Uint64()
	case 1:
		return r.Uint64() & r.Uint64() & r.Uint64()
	}
	return tame(r, 20, 3) ^ 1<<r.Intn(64)
}

// tame: a word that mostly can be done, in an image of so many words and functions.
func tame(r *rand.Rand, places, functions int) uint64 {
	reg := func() byte { return byte(r.Intn(4)) }
	op := byte(20 + r.Intn(21))
	if r.Intn(3) == 0 {
		op = byte(1 + r.Intn(16))
	}
	imm := uint32(r.Intn(5))
	switch op {
	case code.MNum:
		if r.Intn(4) == 0 {
			imm = r.Uint32() >> r.Intn(32)
		}
	case code.MJump, code.MZero:
		imm = uint32(r.Intn(places + 1))
	case code.MCall:
		imm = uint32(r.Intn(functions + r.Intn(2)))
	case code.MIndex:
		imm = 2 + uint32(r.Intn(4))
	case code.MOff:
		imm = uint32(r.Intn(2))
	}
	if r.Intn(60) == 0 {
		imm = []uint32{6, 70, math.MaxUint32, api.MaxCells}[r.Intn(4)]
	}
	return raw(op, byte(r.Intn(6)), reg(), reg(), reg(), imm)
}

// made: an image that can be run, at random.
func made(r *rand.Rand) code.Image {
	var im code.Image
	functions, places := 1+r.Intn(4), 4+r.Intn(40)
	for range places {
		w := tame(r, places, functions)
		if r.Intn(40) == 0 {
			w = wild(r)
		}
		switch r.Intn(12) { // so that not nearly all of them trap soon, or go round and round
		case 0:
			w = num(byte(r.Intn(4)), uint32(r.Intn(7)))
		case 1:
			w = raw(code.MNum, api.I32, byte(r.Intn(4)), 0, 0, r.Uint32()>>r.Intn(32))
		case 2:
			w = show(byte(r.Intn(4)))
		case 3:
			w = ret(byte(r.Intn(4)))
		case 4:
			w = []uint64{get(byte(r.Intn(4)), uint32(r.Intn(3))), put(byte(r.Intn(4)), uint32(r.Intn(3)))}[r.Intn(2)]
		case 5:
			w = calls(byte(r.Intn(4)), uint32(r.Intn(functions)))
		case 6:
			w = []uint64{frame(byte(r.Intn(4)), uint32(r.Intn(2))), arg(uint32(r.Intn(6)), byte(r.Intn(4))), par(byte(r.Intn(4)), uint32(r.Intn(6)))}[r.Intn(3)]
		}
		im.Words = append(im.Words, w)
	}
	for range functions {
		im.Starts = append(im.Starts, r.Intn(places))
		cells := r.Intn(4)
		if r.Intn(30) == 0 {
			cells = 20000 + r.Intn(45537)
		}
		im.Frames = append(im.Frames, cells)
	}
	for range r.Intn(4) {
		im.Data = append(im.Data, int64(r.Intn(9))-2+int64(r.Intn(2)*r.Intn(2))*r.Int63())
	}
	if r.Intn(60) == 0 {
		im.Data = make([]int64, 60000+r.Intn(5537))
	}
	return im
}

func twin(im code.Image) code.Image {
	return code.Image{Words: slices.Clone(im.Words), Starts: slices.Clone(im.Starts), Frames: slices.Clone(im.Frames), Data: slices.Clone(im.Data)}
}

// P25.1, P2: images made at random, with few steps and many, held against the model; the image is not changed, and what was answered stays.
func TestAgainstModel(t *testing.T) {
	r := rand.New(rand.NewSource(26))
	halts, spents, calls, traps := 0, 0, 0, map[api.Trap]int{}
	for range 30000 {
		im := made(r)
		same := twin(im)
		for _, fuel := range []int{r.Intn(30), 300} {
			m := model{im: im}
			want := m.run(fuel)
			o, e := Run(im, fuel)
			if e != api.OK || !alike(o, want) {
				t.Fatalf("%x with a fuel of %d: %+v, %d; want %+v", im, fuel, o, e, want)
			}
			again, _ := Run(im, fuel)
			for k := range o.Trace {
				o.Trace[k] = 99
			}
			if !alike(again, want) || !reflect.DeepEqual(im, same) {
				t.Fatalf("%x with a fuel of %d: %+v at the second time", im, fuel, again)
			}
			switch {
			case o.Halted:
				halts++
			case o.Fuel:
				spents++
			}
			calls += m.begun - 1
			traps[o.Trap]++
		}
	}
	t.Logf("%d halted, %d spent, %d calls within others, traps %v", halts, spents, calls, traps)
	if halts < 10000 || spents < 5000 || calls < 20000 || len(traps) < 6 {
		t.Errorf("%d halted, %d spent, %d calls within others, traps %v", halts, spents, calls, traps)
	}
}

// P1: images of any words and numbers: nothing panics, and what is refused is what the chapter lists.
func TestWildImages(t *testing.T) {
	r := rand.New(rand.NewSource(27))
	number := func(most int) int {
		return []int{0, r.Intn(most + 2), most, -1, most + 1, math.MinInt, math.MaxInt}[r.Intn(3+r.Intn(2)*r.Intn(5))]
	}
	seen := map[api.Errno]int{}
	for range 40000 {
		var im code.Image
		for range r.Intn(9) {
			im.Words = append(im.Words, wild(r))
		}
		right := len(im.Words) > 0
		functions := r.Intn(4)
		for range functions {
			im.Starts = append(im.Starts, number(len(im.Words)-1))
			im.Frames = append(im.Frames, number(api.MaxCells))
		}
		if r.Intn(20) == 0 {
			im.Frames = append(im.Frames, 0)
		}
		for k, start := range im.Starts {
			right = right && start >= 0 && start < len(im.Words) && im.Frames[k] >= 0 && im.Frames[k] <= 65536
		}
		right = right && functions > 0 && len(im.Frames) == functions
		im.Data = make([]int64, r.Intn(3))
		fuel := number(100)
		want := api.OK
		switch {
		case fuel < 0 || fuel > api.MaxFuel:
			want = api.ErrArg
		case !right:
			want = api.ErrForm
		}
		o, e := Run(im, fuel)
		if e != want || e != api.OK && !alike(o, api.Outcome{}) {
			t.Fatalf("%x with a fuel of %d: %+v, %d; want %d", im, fuel, o, e, want)
		}
		seen[e]++
	}
	if seen[api.OK] < 3000 || seen[api.ErrForm] < 3000 || seen[api.ErrArg] < 1000 {
		t.Errorf("errors %v", seen)
	}
}

// P25.1: with more steps a run that was over ends alike; one that was spent begins with the same trace, and has taken all its steps.
func TestMoreSteps(t *testing.T) {
	r := rand.New(rand.NewSource(28))
	for range 1500 {
		im := made(r)
		before, _ := Run(im, 0)
		for fuel := 1; fuel < 80; fuel++ {
			o, e := Run(im, fuel)
			if e != api.OK || o.Steps > fuel || o.Fuel && o.Steps != fuel {
				t.Fatalf("%x with a fuel of %d: %+v, %d", im, fuel, o, e)
			}
			if before.Fuel {
				n := len(before.Trace)
				if len(o.Trace) < n || len(o.Trace) > n+1 || !slices.Equal(o.Trace[:n], before.Trace) || o.Steps < before.Steps {
					t.Fatalf("%x with a fuel of %d: %+v behind %+v", im, fuel, o, before)
				}
			} else if !alike(o, before) {
				t.Fatalf("%x with a fuel of %d: %+v behind %+v", im, fuel, o, before)
			}
			before = o
		}
	}
}

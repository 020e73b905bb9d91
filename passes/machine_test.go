package passes

import (
	"fmt"
	"math/rand"
	"reflect"
	"slices"
	"testing"

	"burin/api"
	"burin/code"
	"burin/ir"
	"burin/vm"
)

// emitted: the image of right code, which the machine must take.
func emitted(t *testing.T, c api.Code, fault bool) code.Image {
	t.Helper()
	im, e := code.Emit(c, fault)
	if e != api.OK {
		t.Fatalf("Emit(%+v, %v): %d", c, fault, e)
	}
	if _, e := vm.Run(im, 0); e != api.OK {
		t.Fatalf("Emit(%+v, %v) = %+v, which the machine doesn't take: %d", c, fault, im, e)
	}
	return im
}

// onMachine asks that the machine does what code does, if that halts, within the steps that P24.2 tells. Other ends than by a cell that there is not, or by no steps left, must be alike, too: no word is done ahead of one that it stands behind.
func onMachine(t *testing.T, c api.Code, fuel int) api.Outcome {
	t.Helper()
	want := outcome(t, c, fuel)
	im := emitted(t, c, false)
	if want.Fuel || want.Trap == api.TrapForm {
		return want
	}
	got, e := vm.Run(im, min(40*want.Steps+20000, api.MaxFuel))
	if got.Steps = want.Steps; e != api.OK || !alike(want, got) {
		t.Fatalf("%+v became %+v: %+v, %d; want %+v", c, im, got, e, want)
	}
	return want
}

// asLe: the same code, with Le in the place of each Lt, and how many there are.
func asLe(c api.Code) (api.Code, int) {
	many := 0
	return eachPart(c, func(p *api.Part) {
		for k := range p.Insts {
			if i := &p.Insts[k]; i.Op == api.Lt {
				i.Op = api.Le
				many++
			}
		}
	}), many
}

// faultOnMachine: with the fault there is the image of the code with Le for each Lt, and no other; without any Lt, that of the code itself.
func faultOnMachine(t *testing.T, c api.Code) code.Image {
	t.Helper()
	le, many := asLe(c)
	got := emitted(t, c, true)
	if want := emitted(t, le, false); !reflect.DeepEqual(got, want) {
		t.Fatalf("Emit(%+v) with the fault = %+v; want %+v", c, got, want)
	}
	if want := emitted(t, c, false); (many == 0) != reflect.DeepEqual(got, want) {
		t.Fatalf("Emit(%+v): with the fault %+v, without %+v", c, got, want)
	}
	return got
}

// careful makes right code at random that uses addresses as addresses alone: some registers hold addresses, the others numbers.
type careful struct {
	maker
	kinds [][]bool // of each function, of each register: does it hold addresses?
}

// register: one of a function that is of that kind.
func (m *careful) register(number int, address bool) int {
	for {
		if r := m.Intn(len(m.kinds[number])); m.kinds[number][r] == address {
			return r
		}
	}
}

// small: a number of I32 or U32.
func (m *careful) small() int64 {
	for {
		if n := m.number(); -1<<31 <= n && n < 1<<32 {
			return n
		}
	}
}

// typ: mostly one whose sums don't trap.
func (m *careful) typ() byte {
	if m.Intn(5) == 0 {
		return byte(m.Intn(6))
	}
	return []byte{api.U8, api.U16, api.U32}[m.Intn(3)]
}

// number of two, of one, or none.
func (m *careful) reckon(number int) []api.Inst {
	i := api.Inst{Op: byte(1 + m.Intn(16)), Type: m.typ(), Dst: m.register(number, false), A: m.register(number, false), B: m.register(number, false)}
	if slices.Contains([]byte{api.Div, api.Rem, api.Shl, api.Shr}, i.Op) && m.Intn(10) > 0 {
		one := m.register(number, false)
		i.B = one
		return []api.Inst{{Op: api.IConst, Dst: one, Imm: 1 + int64(m.Intn(6))}, i}
	}
	switch m.Intn(6) {
	case 0:
		i.Op = api.ICast - byte(m.Intn(4))
	case 1:
		i.Op, i.Imm = api.IConst, m.small()
	case 2:
		i.Op = api.IMove
	}
	return []api.Inst{m.noise(i)}
}

// touch: an address, which may be led on to a further cell of the same variable, and a cell that is read or written there.
func (m *careful) touch(f *api.Fn, number int) []api.Inst {
	to := m.register(number, true)
	op, cells := api.IGlobal, m.code.Globals
	if m.Intn(2) == 0 {
		op, cells = api.ISlot, f.Slots
	}
	if len(cells) == 0 {
		return nil
	}
	n := m.Intn(len(cells))
	l := []api.Inst{{Op: op, Dst: to, Imm: int64(n)}}
	switch m.Intn(4) {
	case 0:
		l = append(l, api.Inst{Op: api.IOff, Dst: to, A: to, Imm: int64(m.Intn(cells[n]))})
	case 1:
		at := m.register(number, false)
		if m.Intn(25) == 0 {
			return append(l, api.Inst{Op: api.IIndex, Dst: to, A: to, B: at, Imm: int64(cells[n])}, m.cell(to, number))
		}
		l = append(l, api.Inst{Op: api.IConst, Dst: at, Imm: int64(m.Intn(cells[n]))}, api.Inst{Op: api.IIndex, Dst: to, A: to, B: at, Imm: int64(cells[n])})
	case 2:
		from := to
		to = m.register(number, true)
		l = append(l, api.Inst{Op: api.IMove, Dst: to, A: from})
	}
	return append(l, m.cell(to, number))
}

func (m *careful) cell(address, number int) api.Inst {
	if m.Intn(2) == 0 {
		return m.noise(api.Inst{Op: api.IStore, Type: m.typ(), A: address, B: m.register(number, false)})
	}
	return m.noise(api.Inst{Op: api.ILoad, Type: m.typ(), Dst: m.register(number, false), A: address})
}

// call: a call of a function ahead, with an address for each parameter that holds one.
func (m *careful) call(number int) []api.Inst {
	if number == 0 {
		return nil
	}
	i := api.Inst{Op: api.ICall, Dst: m.register(number, false), Imm: int64(m.Intn(number))}
	for p := range m.code.Fns[i.Imm].Params {
		i.Args = append(i.Args, m.register(number, m.kinds[i.Imm][p]))
	}
	return []api.Inst{m.noise(i)}
}

func (m *careful) insts(f *api.Fn, number int) []api.Inst {
	switch m.Intn(8) {
	case 0, 1:
		return m.touch(f, number)
	case 2:
		return m.call(number)
	case 3:
		return []api.Inst{m.noise(api.Inst{Op: api.IPrint, A: m.register(number, false)})}
	case 4:
		return []api.Inst{m.cell(m.register(number, true), number)} // mostly one that was led somewhere in another part, or a parameter
	}
	return m.reckon(number)
}

func (m *careful) function(number int, last bool) {
	f := api.Fn{Regs: 2 + m.Intn(4) + m.more, Slots: m.cells(), Parts: make([]api.Part, 1+m.Intn(6))}
	if !last {
		f.Params = m.Intn(min(f.Regs, api.MaxArgs) + 1)
	}
	kinds := make([]bool, f.Regs)
	for r := range kinds {
		kinds[r] = m.Intn(4) == 0
	}
	kinds[f.Regs-1], kinds[f.Regs-2] = true, false
	m.kinds = append(m.kinds, kinds)
	for n := range f.Parts {
		p := &f.Parts[n]
		if n == 0 {
			for r, address := range kinds {
				if r >= f.Params && !address && m.Intn(3) > 0 {
					p.Insts = append(p.Insts, api.Inst{Op: api.IConst, Dst: r, Imm: m.small()})
				}
			}
		}
		for range m.Intn(12) {
			p.Insts = append(p.Insts, m.insts(&f, number)...)
		}
		p.Next, p.Else, p.Cond = m.Intn(len(f.Parts)), m.Intn(len(f.Parts)), m.register(number, false)
		if p.End = m.Intn(3) == 0; !p.End && m.Intn(3) == 0 {
			p.Cond, p.Else = -1-m.Intn(9), m.Intn(99)-9
		}
	}
	m.code.Fns = append(m.code.Fns, f)
}

func carefulCode(r *rand.Rand) api.Code {
	m := careful{maker: maker{Rand: r, more: r.Intn(2) * r.Intn(40)}}
	m.code.Globals = append(m.cells(), 1+m.Intn(3))
	for range m.code.Globals {
		m.code.Inits = append(m.code.Inits, m.number())
	}
	many := 1 + m.Intn(5)
	for number := range many {
		m.function(number, number == many-1)
	}
	return m.code
}

// P24.2, P5: code made up of any right instructions, which uses addresses as addresses alone, is done on the machine as it is; with the fault just what the chapter says.
func TestMachineMadeUp(t *testing.T) {
	r := rand.New(rand.NewSource(40))
	halted, cells, wrong, traps := 0, 0, 0, map[api.Trap]int{}
	for range 12000 {
		c := carefulCode(r)
		o := onMachine(t, c, 400)
		im := faultOnMachine(t, c)
		traps[o.Trap]++
		if !o.Halted {
			continue
		}
		halted++
		for _, l := range layers() {
			d, _ := l.run(c, false)
			onMachine(t, d, api.MaxFuel)
		}
		for fn, f := range c.Fns {
			slots := 0
			for _, n := range f.Slots {
				slots += n
			}
			if im.Frames[fn] > slots {
				cells++
			}
		}
		if got, _ := vm.Run(im, 40*o.Steps+20000); got.Exit != o.Exit || !slices.Equal(got.Trace, o.Trace) {
			wrong++
		}
	}
	t.Logf("%d halted, %d with registers in cells, made wrong by the fault: %d, traps %v", halted, cells, wrong, traps)
	if halted < 3000 || cells < 1000 || wrong < 20 || len(traps) < 5 {
		t.Errorf("%d halted, %d with registers in cells, made wrong by the fault: %d, traps %v", halted, cells, wrong, traps)
	}
}

// P24.2, P5: the code of programs, as it is, behind each pass, and behind all of them, in the order in which the whole does them and in others.
func TestMachineDrawn(t *testing.T) {
	r := rand.New(rand.NewSource(41))
	prints, wrong := 0, 0
	for range 1500 {
		c := lowered(t, drawn(t, r))
		o := onMachine(t, c, api.MaxFuel)
		if !o.Halted {
			t.Fatalf("%+v: %+v", c, o)
		}
		prints += len(o.Trace)
		if got, _ := vm.Run(faultOnMachine(t, c), min(40*o.Steps+20000, api.MaxFuel)); !got.Halted || got.Exit != o.Exit || !slices.Equal(got.Trace, o.Trace) {
			wrong++
		}
		all := c
		order := layers()
		r.Shuffle(len(order), func(a, b int) { order[a], order[b] = order[b], order[a] })
		for _, l := range order {
			d, _ := l.run(c, false)
			onMachine(t, d, api.MaxFuel)
			all, _ = l.run(all, false)
			onMachine(t, all, api.MaxFuel)
		}
		faultOnMachine(t, all)
	}
	t.Logf("%d numbers printed; made wrong by the fault: %d", prints, wrong)
	if prints < 2000 || wrong < 50 {
		t.Errorf("%d numbers printed; made wrong by the fault: %d", prints, wrong)
	}
}

// P24.2: the code of texts that halt and that trap, as it is and behind the passes.
func TestMachineTexts(t *testing.T) {
	list := slices.Clone(texts)
	for _, a := range asked {
		list = append(list, a.text)
	}
	for _, s := range list {
		c := read(t, s)
		all := c
		for _, l := range layers() {
			onMachine(t, all, api.MaxFuel)
			all, _ = l.run(all, false)
		}
		onMachine(t, all, api.MaxFuel)
		faultOnMachine(t, all)
	}
	loop := read(t, "i32 main() { for i = 0i32 to 3i32 { print(i); } return 0i32; }")
	if o, _ := vm.Run(faultOnMachine(t, loop), 9999); !o.Halted || !slices.Equal(o.Trace, []int64{0, 1, 2, 3}) {
		t.Errorf("a loop with the fault: %+v", o)
	}
}

// P24.2: a program that calls as deep as can be, and one whose globals take as much memory as can be: the machine has room for them.
func TestMachineGreatPrograms(t *testing.T) {
	deep := "i32 f0() { return 5i32; }"
	for k := range 1325 { // of three nodes each
		deep += fmt.Sprintf("i32 f%d() { f%d(); }", k+1, k)
	}
	deep += "i32 main() { i32 x; x = f1325(); print(x); x = f0(); return x; }"
	if o := onMachine(t, read(t, deep), api.MaxFuel); !o.Halted || o.Exit != 5 {
		t.Errorf("deep calls: %+v", o)
	}
	var wide string
	for k := range 3700 {
		wide += fmt.Sprintf("u8 g%d[16i32];", k)
	}
	wide += "u8 f(u8 a, u8 b, u8 c, u8 d, u8 e, u8 x) { u8 l[16i32]; l[a] = b; g3699[b] = c; return a + (b + (c + (d + (e + (x + (l[1i32] + (g3699[2i32] + (a * b * c)))))))); }"
	wide += "i32 main() { u8 y = 1u8; y = f(y, 2u8, 3u8, 4u8, 5u8, y + 6u8); print(y); return 0i32; }"
	if o := onMachine(t, read(t, wide), api.MaxFuel); !slices.Equal(o.Trace, []int64{33}) {
		t.Errorf("many globals: %+v", o)
	}
}

// P24.2, P1: code that isn't right is refused as ir.Valid refuses it; what is right but beyond the machine's words, by ErrLimit.
func TestMachineErrors(t *testing.T) {
	r := rand.New(rand.NewSource(42))
	seen := map[api.Errno]int{}
	for n := range 30000 {
		c := []func(*rand.Rand) api.Code{madeUp, crowded, asking, carefulCode}[n%4](r)
		if n%8 < 6 {
			spoil(r, &c)
		}
		want := ir.Valid(c)
		for _, f := range c.Fns {
			for _, p := range f.Parts {
				for _, i := range p.Insts {
					if want == api.OK && i.Op == api.IConst && (i.Imm < -1<<31 || i.Imm > 1<<32-1) {
						want = api.ErrLimit
					}
				}
			}
			if want == api.OK && f.Params > 6 {
				want = api.ErrLimit
			}
		}
		for _, fault := range []bool{false, true} {
			im, e := code.Emit(c, fault)
			if e != want || e != api.OK && !reflect.DeepEqual(im, code.Image{}) {
				t.Fatalf("Emit(%+v, %v) = %+v, %d; want %d", c, fault, im, e, want)
			}
			if e == api.OK {
				vm.Run(im, 50)
			}
			seen[e]++
		}
	}
	if seen[api.OK] < 5000 || seen[api.ErrForm] < 5000 || seen[api.ErrLimit] < 5000 {
		t.Errorf("errors %v", seen)
	}
}

// room: an image with all that stands in its lists, spare room too.
func room(im code.Image) code.Image {
	return code.Image{Words: slices.Clone(all(im.Words)), Starts: slices.Clone(all(im.Starts)), Frames: slices.Clone(all(im.Frames)), Data: slices.Clone(all(im.Data))}
}

// P2, and the rule of memory: the same code makes the same image; it is neither changed nor kept, its spare room neither, and no list of an image shares memory with it, with another list or with an earlier image.
func TestMachineMemory(t *testing.T) {
	r := rand.New(rand.NewSource(43))
	for n := range 2000 {
		c := carefulCode(r)
		fault := n%2 == 0
		handed := withRoom(c)
		held := inner(handed)
		first, e := code.Emit(handed, fault)
		kept := room(first)
		second, again := code.Emit(handed, fault)
		if e != again || !reflect.DeepEqual(kept, room(second)) {
			t.Fatalf("Emit(%+v, %v): two answers", c, fault)
		}
		apart(t, [][]int{all(first.Starts), all(first.Frames)}, func(n *int) *int { return n })
		for k := range all(first.Words) {
			all(first.Words)[k] = 99
		}
		for k := range all(first.Data) {
			all(first.Data)[k] = 99
		}
		if !reflect.DeepEqual(held, inner(handed)) || !reflect.DeepEqual(kept, room(second)) {
			t.Fatalf("Emit(%+v, %v): what was handed in is changed, or an image shares memory", c, fault)
		}
		o, _ := vm.Run(second, 500)
		p, _ := vm.Run(second, 500)
		if !alike(o, p) || !reflect.DeepEqual(kept, room(second)) {
			t.Fatalf("Run(%+v): two answers, or the image is changed", second)
		}
		var rest lists
		rest.add(handed)
		rest.apart(t)
		if third, _ := code.Emit(withRoom(c), fault); !reflect.DeepEqual(kept, room(second)) || !reflect.DeepEqual(kept, room(third)) {
			t.Fatalf("Emit(%+v, %v): what was handed in is kept, or an image hangs on an earlier one", c, fault)
		}
	}
}

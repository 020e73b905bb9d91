package vm

import (
	"fmt"
	"math"
	"slices"
	"testing"

	"burin/api"
	"burin/code"
	"burin/ints"
)

// The signature and the number that the chapter lists.
var _ func(code.Image, int) (api.Outcome, api.Errno) = Run

const _ uint = MaxCalls - 2000
const _ uint = 2000 - MaxCalls

func halted(exit int64, steps int, trace ...int64) api.Outcome {
	return api.Outcome{Halted: true, Exit: exit, Steps: steps, Trace: trace}
}

func trapped(trap api.Trap, steps int, trace ...int64) api.Outcome {
	return api.Outcome{Trap: trap, Steps: steps, Trace: trace}
}

func spent(steps int, trace ...int64) api.Outcome {
	return api.Outcome{Fuel: true, Steps: steps, Trace: trace}
}

func alike(a, b api.Outcome) bool {
	return a.Halted == b.Halted && a.Exit == b.Exit && a.Trap == b.Trap && a.Fuel == b.Fuel && a.Steps == b.Steps && slices.Equal(a.Trace, b.Trace)
}

func ends(t *testing.T, what string, im code.Image, fuel int, want api.Outcome) {
	t.Helper()
	o, e := Run(im, fuel)
	if e != api.OK || !alike(o, want) {
		t.Errorf("%s with a fuel of %d: %+v, %d; want %+v", what, fuel, o, e, want)
	}
}

// each asks how a run ends with steps enough, with the most, and with every number of steps that is too few: it is spent there, behind the beginning of the same trace.
func each(t *testing.T, what string, im code.Image, want api.Outcome) {
	t.Helper()
	ends(t, what, im, api.MaxFuel, want)
	ends(t, what, im, want.Steps, want)
	ends(t, what, im, want.Steps+1, want)
	printed := 0
	for fuel := range want.Steps {
		o, e := Run(im, fuel)
		if e != api.OK || len(o.Trace) < printed || len(o.Trace) > len(want.Trace) {
			t.Fatalf("%s with a fuel of %d: %+v, %d", what, fuel, o, e)
		}
		printed = len(o.Trace)
		if !alike(o, spent(fuel, want.Trace[:printed]...)) {
			t.Errorf("%s with a fuel of %d: %+v, %d", what, fuel, o, e)
		}
	}
}

// Words by short names.
func raw(op, typ, d, a, b byte, imm uint32) uint64 {
	return uint64(op)<<56 | uint64(typ)<<52 | uint64(d)<<48 | uint64(a)<<44 | uint64(b)<<40 | uint64(imm)
}

func num(d byte, n uint32) uint64          { return raw(code.MNum, api.U32, d, 0, 0, n) }
func low(d byte, n int32) uint64           { return raw(code.MNum, api.I32, d, 0, 0, uint32(n)) }
func move(d, a byte) uint64                { return raw(code.MMove, 0, d, a, 0, 0) }
func do(op, typ, d, a, b byte) uint64      { return raw(op, typ, d, a, b, 0) }
func frame(d byte, n uint32) uint64        { return raw(code.MFrame, 0, d, 0, 0, n) }
func global(d byte, n uint32) uint64       { return raw(code.MGlobal, 0, d, 0, 0, n) }
func at(d, a, b byte, n uint32) uint64     { return raw(code.MIndex, 0, d, a, b, n) }
func off(d, a byte, n uint32) uint64       { return raw(code.MOff, 0, d, a, 0, n) }
func load(d, a byte) uint64                { return raw(code.MLoad, 0, d, a, 0, 0) }
func store(a, b byte) uint64               { return raw(code.MStore, 0, 0, a, b, 0) }
func get(d byte, n uint32) uint64          { return raw(code.MGet, 0, d, 0, 0, n) }
func put(a byte, n uint32) uint64          { return raw(code.MPut, 0, 0, a, 0, n) }
func arg(n uint32, a byte) uint64          { return raw(code.MArg, 0, 0, a, 0, n) }
func par(d byte, n uint32) uint64          { return raw(code.MPar, 0, d, 0, 0, n) }
func calls(d byte, n uint32) uint64        { return raw(code.MCall, 0, d, 0, 0, n) }
func show(a byte) uint64                   { return raw(code.MPrint, 0, 0, a, 0, 0) }
func jump(n uint32) uint64                 { return raw(code.MJump, 0, 0, 0, 0, n) }
func zero(a byte, n uint32) uint64         { return raw(code.MZero, 0, 0, a, 0, n) }
func ret(a byte) uint64                    { return raw(code.MRet, 0, 0, a, 0, 0) }
func words(list ...uint64) []uint64        { return list }
func main(list ...uint64) code.Image       { return framed(0, list...) }
func framed(n int, l ...uint64) code.Image { return image([]int{n}, l) }
func data(im code.Image, l ...int64) code.Image {
	im.Data = l
	return im
}

// image: functions with such frames, one behind the other.
func image(frames []int, functions ...[]uint64) code.Image {
	im := code.Image{Frames: frames}
	for _, f := range functions {
		im.Starts = append(im.Starts, len(im.Words))
		im.Words = append(im.Words, f...)
	}
	return im
}

// The chapter's example.
func TestExample(t *testing.T) {
	seven := raw(code.MNum, api.I32, 0, 0, 0, 7)
	each(t, "example", main(seven, show(0), ret(0)), halted(7, 3, 7))
	each(t, "without the last word", main(seven, show(0)), trapped(api.TrapForm, 3, 7))
}

// P25.1: fuel just within and just beyond its bounds, with images that are right and that aren't.
func TestFuel(t *testing.T) {
	good, bad := main(ret(0)), code.Image{}
	for _, r := range []struct {
		fuel        int
		good, wrong api.Errno
	}{
		{0, api.OK, api.ErrForm}, {1, api.OK, api.ErrForm}, {api.MaxFuel - 1, api.OK, api.ErrForm}, {api.MaxFuel, api.OK, api.ErrForm},
		{api.MaxFuel + 1, api.ErrArg, api.ErrArg}, {-1, api.ErrArg, api.ErrArg}, {math.MinInt, api.ErrArg, api.ErrArg}, {math.MaxInt, api.ErrArg, api.ErrArg},
	} {
		for _, x := range []struct {
			im   code.Image
			want api.Errno
		}{{good, r.good}, {bad, r.wrong}} {
			if o, e := Run(x.im, r.fuel); e != x.want || e != api.OK && !alike(o, api.Outcome{}) {
				t.Errorf("fuel %d: %+v, %d; want %d", r.fuel, o, e, x.want)
			}
		}
	}
	ends(t, "round and round", main(num(1, 3), show(1), jump(2)), api.MaxFuel, spent(api.MaxFuel, 3))
	ends(t, "no steps at all", main(ret(0)), 0, spent(0))
	o, e := Run(main(show(0), jump(0)), api.MaxFuel)
	if e != api.OK || !o.Fuel || o.Steps != api.MaxFuel || len(o.Trace) != api.MaxFuel/2 {
		t.Errorf("printing: %d steps, %d printed, %d", o.Steps, len(o.Trace), e)
	}
}

// P25.1: each fault of an image, at its edge and one beyond.
func TestForm(t *testing.T) {
	one := main(ret(0))
	change := func(do func(im *code.Image)) code.Image {
		im := main(ret(0))
		do(&im)
		return im
	}
	for what, r := range map[string]struct {
		im   code.Image
		want api.Errno
	}{
		"right":                     {one, api.OK},
		"nothing":                   {code.Image{}, api.ErrForm},
		"no function":               {change(func(im *code.Image) { im.Starts, im.Frames = nil, nil }), api.ErrForm},
		"empty lists":               {code.Image{Words: []uint64{}, Starts: []int{}, Frames: []int{}, Data: []int64{}}, api.ErrForm},
		"no Frames":                 {change(func(im *code.Image) { im.Frames = nil }), api.ErrForm},
		"too many Frames":           {change(func(im *code.Image) { im.Frames = []int{0, 0} }), api.ErrForm},
		"too few Frames":            {change(func(im *code.Image) { im.Starts = []int{0, 0} }), api.ErrForm},
		"no word":                   {change(func(im *code.Image) { im.Words = nil }), api.ErrForm},
		"a Start behind the last":   {change(func(im *code.Image) { im.Starts[0] = 1 }), api.ErrForm},
		"a Start far behind":        {change(func(im *code.Image) { im.Starts[0] = math.MaxInt }), api.ErrForm},
		"a Start below 0":           {change(func(im *code.Image) { im.Starts[0] = -1 }), api.ErrForm},
		"a Start far below":         {change(func(im *code.Image) { im.Starts[0] = math.MinInt }), api.ErrForm},
		"the last word":             {change(func(im *code.Image) { im.Words, im.Starts[0] = words(show(0), ret(0)), 1 }), api.OK},
		"another Start":             {change(func(im *code.Image) { im.Starts, im.Frames = []int{1, 0}, []int{0, 0} }), api.ErrForm},
		"a Frame below 0":           {change(func(im *code.Image) { im.Frames[0] = -1 }), api.ErrForm},
		"a Frame far below 0":       {change(func(im *code.Image) { im.Frames[0] = math.MinInt }), api.ErrForm},
		"the greatest Frame":        {change(func(im *code.Image) { im.Frames[0] = api.MaxCells }), api.OK},
		"a Frame one too great":     {change(func(im *code.Image) { im.Frames[0] = api.MaxCells + 1 }), api.ErrForm},
		"a Frame far too great":     {change(func(im *code.Image) { im.Frames[0] = math.MaxInt }), api.ErrForm},
		"another Frame":             {change(func(im *code.Image) { im.Starts, im.Frames = []int{0, 0}, []int{-1, 0} }), api.ErrForm},
		"as many words as may be":   {change(func(im *code.Image) { im.Words = slices.Repeat(words(ret(0)), 4*api.MaxInsts) }), api.OK},
		"one word more":             {change(func(im *code.Image) { im.Words = slices.Repeat(words(ret(0)), 4*api.MaxInsts+1) }), api.ErrForm},
		"as many Data as may be":    {change(func(im *code.Image) { im.Data = make([]int64, api.MaxCells) }), api.OK},
		"one of Data more":          {change(func(im *code.Image) { im.Data = make([]int64, api.MaxCells+1) }), api.ErrForm},
		"functions at one place":    {change(func(im *code.Image) { im.Starts, im.Frames = []int{0, 0, 0}, []int{1, 2, 3} }), api.OK},
		"a word that means nothing": {change(func(im *code.Image) { im.Words = words(math.MaxUint64) }), api.OK},
	} {
		o, e := Run(r.im, 5)
		if e != r.want || e != api.OK && !alike(o, api.Outcome{}) {
			t.Errorf("%s: %+v, %d; want %d", what, o, e, r.want)
		}
	}
}

// numbers at which each operation is asked: about the edges of each type, and beyond all of them.
var numbers = []int64{0, 1, 2, 7, 8, 31, 32, 127, 128, 255, 256, 32767, 32768, 65535, 65536, math.MaxInt32, math.MaxInt32 + 1, math.MaxUint32, math.MaxUint32 + 1,
	-1, -2, -128, -129, -32768, -32769, math.MinInt32, math.MinInt32 - 1, math.MinInt64, math.MaxInt64}

// P25.1: each operation, of each type, as layer 1 reckons it, with its traps; numbers that no word can make come from the globals.
func TestOperations(t *testing.T) {
	for typ := range byte(6) {
		for _, a := range numbers {
			for _, b := range numbers {
				for op := api.Add; op <= api.Ne; op++ {
					v, trap := ints.Do(op, typ, a, b)
					want := halted(v, 6)
					if trap != api.NoTrap {
						want = trapped(trap, 5)
					}
					im := data(main(global(1, 0), load(0, 1), global(1, 1), load(7, 1), do(op, typ, 2, 0, 7), ret(2)), a, b)
					ends(t, fmt.Sprint("operation ", op, typ, a, b), im, 9, want)
				}
			}
		}
	}
}

// P25.1: MNeg, MNot, MBang, MCast, of each type, as layer 1 reckons them; MNum of each type; MMove of any number.
func TestOneNumber(t *testing.T) {
	for _, a := range numbers {
		ends(t, "move", data(main(load(0, 0), move(7, 0), num(0, 1), ret(7)), a), 9, halted(a, 4))
		ends(t, "print", data(main(load(0, 0), show(0), ret(1)), a), 9, halted(0, 3, a))
		for typ := range byte(6) {
			ends(t, "cast", data(main(load(0, 0), do(code.MCast, typ, 7, 0, 0), ret(7)), a), 9, halted(ints.Wrap(typ, a), 3))
			for op, un := range map[byte]byte{code.MNeg: api.Neg, code.MNot: api.Not, code.MBang: api.Bang} {
				v, trap := ints.Un(un, typ, a)
				want := halted(v, 3)
				if trap != api.NoTrap {
					want = trapped(trap, 2)
				}
				ends(t, fmt.Sprint("operation ", op, typ, a), data(main(load(0, 0), do(op, typ, 7, 0, 0), ret(7)), a), 9, want)
			}
		}
	}
	for _, imm := range []uint32{0, 1, 127, 128, 255, 256, 32767, 32768, 65535, 65536, math.MaxInt32, 1 << 31, math.MaxUint32} {
		for typ := range byte(6) {
			ends(t, "number", main(raw(code.MNum, typ, 3, 0, 0, imm), ret(3)), 9, halted(ints.Wrap(typ, int64(imm)), 2))
		}
	}
	each(t, "examples", main(low(0, -5), do(code.MNeg, api.I8, 1, 0, 0), do(code.MNot, api.I8, 2, 1, 0), do(code.MBang, api.I8, 3, 2, 0), show(1), show(2), show(3), ret(0)), halted(-5, 8, 5, -6, 0))
}

// plain: a word of each Op of the table that can be done where the machine has two cells in its frame, is one of two functions, and all registers are 0.
func plain(op byte) uint64 {
	imm := uint32(0)
	if op == code.MIndex || op == code.MJump || op == code.MZero {
		imm = 2
	}
	return raw(op, 0, 1, 2, 3, imm)
}

// host: an image that does a word and halts, or is answered by what it calls; divisions by 0 trap.
func host(w uint64) code.Image {
	return image([]int{0, 2}, words(num(5, 4), ret(5)), words(w, show(1), ret(0)))
}

// P25.1: those Ops that the table lists are done, every other one is a TrapForm: it takes a step.
func TestEachOp(t *testing.T) {
	for op := range 256 {
		o, e := Run(host(plain(byte(op))), 99)
		listed := 1 <= op && op <= 16 || 20 <= op && op <= 40
		if e != api.OK || listed && o.Trap == api.TrapForm || !listed && !alike(o, trapped(api.TrapForm, 1)) {
			t.Errorf("Op %d: %+v, %d", op, o, e)
		}
	}
}

// P25.1: of every Op D, A, B at Regs - 1 and from Regs on, Type at the last one and from one more on, and each of the bits that must be 0: looked at even where the Op needs them not.
func TestFields(t *testing.T) {
	for op := range 256 {
		w := plain(byte(op))
		for field, shift := range []int{52, 48, 44, 40} {
			most := []uint64{5, 7, 7, 7}[field]
			for n := range uint64(16) {
				v := w&^(15<<shift) | n<<shift
				o, e := Run(host(v), 99)
				if e != api.OK {
					t.Fatal(e)
				}
				listed := 1 <= op && op <= 16 || 20 <= op && op <= 40
				if bad := n > most || !listed; bad != (o.Trap == api.TrapForm && o.Steps == 1) {
					t.Errorf("Op %d, field %d at %d: %+v", op, field, n, o)
				}
			}
		}
		for bit := 32; bit < 40; bit++ {
			ends(t, "a bit", host(w|1<<bit), 99, trapped(api.TrapForm, 1))
		}
	}
}

// P25.1: every register is one of its own, as D, as A and as B; all are 0 first.
func TestRegisters(t *testing.T) {
	var first, last []uint64
	for r := range byte(api.Regs) {
		first = append(first, show(r), num(r, 10+3*uint32(r)))
		last = append(last, show(r))
	}
	for d := range byte(api.Regs) {
		for a := range byte(api.Regs) {
			for b := range byte(api.Regs) {
				var held [api.Regs]int64
				trace := slices.Clone(held[:])
				for r := range held {
					held[r] = 10 + 3*int64(r)
				}
				held[d] = held[a] - held[b]
				list := slices.Concat(first, words(do(api.Sub, api.I32, d, a, b)), last, words(ret(b)))
				ends(t, fmt.Sprint("registers ", d, a, b), main(list...), 999, halted(held[b], len(list), append(trace, held[:]...)...))
			}
		}
	}
}

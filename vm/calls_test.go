package vm

import (
	"fmt"
	"math"
	"slices"
	"testing"

	"burin/api"
	"burin/code"
)

// P25.1: MArg and MPar at 0, at MaxArgs - 1, at MaxArgs and far beyond.
func TestArguments(t *testing.T) {
	for _, n := range []uint32{0, 1, api.MaxArgs - 1, api.MaxArgs, api.MaxArgs + 1, math.MaxUint32} {
		inner := words(par(3, n), show(3), ret(3))
		outer := words(num(1, 40), arg(n, 1), calls(2, 0), ret(2))
		want := halted(40, 7, 40)
		if n >= api.MaxArgs {
			want = trapped(api.TrapForm, 2)
		}
		each(t, fmt.Sprint("argument ", n), image([]int{0, 0}, inner, outer), want)
		want = halted(0, 2)
		if n >= api.MaxArgs {
			want = trapped(api.TrapForm, 1)
		}
		each(t, fmt.Sprint("of the first call ", n), main(par(3, n), ret(3)), want)
	}
	var inner, outer []uint64
	var want []int64
	for n := range uint32(api.MaxArgs) {
		outer = append(outer, num(byte(n), 10+n), arg(n, byte(n)))
		inner = append(inner, par(7, n), show(7))
		want = append(want, 10+int64(n))
	}
	outer = append(outer, calls(6, 0), num(0, 99), arg(2, 0), num(1, 98), calls(6, 0), ret(6))
	inner = append(inner, ret(7))
	again := slices.Clone(want)
	again[2] = 99 // what was got ready stays, but for what was got ready anew
	each(t, "all of them", image([]int{0, 0}, inner, outer), halted(15, 2*len(inner)+len(outer), append(want, again...)...))
}

// P25.1: registers, and what is got ready, are 0 when a call begins, also where another one's lay; the caller's are as they were, but for the answer; the arguments that were got stay.
func TestCallsBeginWithZero(t *testing.T) {
	show0to7 := func() (l []uint64) {
		for r := range byte(api.Regs) {
			l = append(l, show(r))
		}
		return l
	}
	pars := func() (l []uint64) {
		for n := range uint32(api.MaxArgs) {
			l = append(l, par(0, n), show(0))
		}
		return append(l, num(0, 0))
	}
	var fill, ready []uint64
	for r := range byte(api.Regs) {
		fill = append(fill, num(r, 20+uint32(r)))
	}
	for n := range uint32(api.MaxArgs) {
		ready = append(ready, arg(n, byte(n)))
	}
	leaf := slices.Concat(pars(), show0to7(), fill, ready, words(ret(3)))                                   // 0: what it got, its registers
	middle := slices.Concat(show0to7(), words(calls(5, 0)), show0to7(), fill, ready, pars(), words(ret(4))) // 1: gets nothing ready
	outer := slices.Concat(fill, ready, words(calls(2, 1), calls(6, 1)), show0to7(), words(ret(6)))
	im := image([]int{0, 0, 0}, leaf, middle, outer)
	none, got := make([]int64, api.MaxArgs), []int64{20, 21, 22, 23, 24, 25}
	zeros := make([]int64, api.Regs)
	answered := []int64{0, 0, 0, 0, 0, 23, 0, 0}
	once := slices.Concat(zeros, none, zeros, answered, got)
	want := slices.Concat(once, once, []int64{20, 21, 24, 23, 24, 25, 24, 27})
	ends(t, "zeros", im, 9999, halted(24, 2*len(leaf)+2*len(middle)+len(outer), want...))
}

// P25.1: an answer comes to the caller's D, whatever it is; the run goes on behind the call.
func TestAnswers(t *testing.T) {
	for d := range byte(api.Regs) {
		for a := range byte(api.Regs) {
			inner := words(num(a, 70+uint32(a)), ret(a))
			outer := words(num(d, 5), show(d), calls(d, 0), show(d), ret(d))
			each(t, fmt.Sprint("answer ", a, " to ", d), image([]int{0, 0}, inner, outer), halted(70+int64(a), 7, 5, 70+int64(a)))
		}
	}
}

// P25.1: the first and the last function are called, and one that there is not; a function may call itself, and those behind it.
func TestFunctions(t *testing.T) {
	for _, n := range []uint32{0, 1, 2, 3, 4, math.MaxUint32} {
		im := image([]int{0, 0, 0, 0}, words(num(0, 10), ret(0)), words(num(0, 11), ret(0)), words(num(0, 12), ret(0)),
			words(par(1, 0), zero(1, 0), num(0, 13), ret(0), num(1, 1), arg(0, 1), calls(2, n), ret(2)))
		im.Words[7] = zero(1, 10)
		want := halted(10+int64(n), 8)
		if n == 3 {
			want = halted(13, 10)
		}
		if n > 3 {
			want = trapped(api.TrapForm, 5)
		}
		each(t, fmt.Sprint("function ", n), im, want)
	}
	twice := code.Image{Words: words(ret(0), num(0, 3), ret(0)), Starts: []int{1, 0, 1}, Frames: []int{0, 0, 0}}
	each(t, "the last one is called first", twice, halted(3, 2))
	back := code.Image{Words: words(calls(0, 0), show(0), ret(0), num(0, 4), ret(0)), Starts: []int{3, 0}, Frames: []int{0, 0}}
	each(t, "functions in any order", back, halted(4, 5, 4))
}

// down: a function that calls itself until so many calls are open, and tells how many it has called then.
func down(cells int, many uint32) code.Image {
	self := words(par(0, 0), num(1, 1), do(api.Sub, api.I32, 0, 0, 1), arg(0, 0), zero(0, 7), calls(0, 0), do(api.Add, api.I32, 0, 0, 1), ret(0))
	first := words(num(0, many), arg(0, 0), num(2, 0), calls(2, 0), show(2), ret(2))
	return image([]int{cells, 0}, self, first)
}

// P25.1: MaxCalls calls within one another, and one more; when they are over there is room again.
func TestDeepCalls(t *testing.T) {
	for _, many := range []uint32{1, 2, 1000, MaxCalls - 2, MaxCalls - 1} {
		ends(t, fmt.Sprint(many, " calls"), down(0, many), 99999, halted(int64(many)-1, 8*int(many)-2+6, int64(many)-1))
	}
	for _, many := range []uint32{MaxCalls, MaxCalls + 1, 5000} {
		ends(t, fmt.Sprint(many, " calls"), down(0, many), 99999, trapped(api.TrapForm, 4+6*(MaxCalls-1)))
	}
	twice := down(0, MaxCalls-1)
	twice.Words = slices.Insert(twice.Words, len(twice.Words)-1, num(0, MaxCalls-1), calls(3, 0), show(3))
	o, e := Run(twice, 99999)
	if e != api.OK || !o.Halted || !slices.Equal(o.Trace, []int64{MaxCalls - 2, MaxCalls - 2}) {
		t.Errorf("twice: %+v, %d", o, e)
	}
	for _, r := range []struct {
		cells int
		calls uint32
	}{{32, MaxCalls - 1}, {64, 1024}, {api.MaxCells, 1}, {api.MaxCells / 2, 2}, {100, 655}} {
		ends(t, fmt.Sprint(r.calls, " frames of ", r.cells), down(r.cells, r.calls), 99999, halted(int64(r.calls)-1, 8*int(r.calls)+4, int64(r.calls)-1))
		if r.calls+1 < MaxCalls {
			ends(t, fmt.Sprint("one more of ", r.cells), down(r.cells, r.calls+1), 99999, trapped(api.TrapForm, 4+6*int(r.calls)))
		}
	}
}

// P25.1: MJump and MZero to the first word, to the last one, and to one that there is not, which traps at the next step.
func TestJumps(t *testing.T) {
	for _, to := range []uint32{3, 4, 5, math.MaxUint32} {
		want := halted(0, 2)
		if to == 3 {
			want = halted(0, 3, 0)
		}
		if to > 4 {
			want = trapped(api.TrapForm, 2)
		}
		each(t, fmt.Sprint("to ", to), main(jump(to), num(1, 1), show(1), show(0), ret(0)), want)
		each(t, fmt.Sprint("if 0 to ", to), main(zero(7, to), num(1, 1), show(1), show(0), ret(0)), want)
		for _, v := range []int64{1, -1, math.MinInt64, math.MaxInt64, 1 << 32, 256} {
			each(t, fmt.Sprint(v, " isn't 0"), data(main(load(7, 0), zero(7, to), ret(7), ret(0), ret(0)), v), halted(v, 3))
		}
	}
	first := code.Image{Words: words(show(1), zero(1, 4), jump(0), ret(5), num(1, 3), jump(0)), Starts: []int{1}, Frames: []int{0}}
	ends(t, "to the first word", first, 9, spent(9, 3, 3))
	first = code.Image{Words: words(num(1, 3), ret(1), zero(0, 0)), Starts: []int{2}, Frames: []int{0}}
	each(t, "if 0 to the first word", first, halted(3, 3))
}

// P25.1: a place behind the last word is a step that traps; what goes on behind a function's last word does the next one's.
func TestPlaces(t *testing.T) {
	each(t, "behind the last word", main(show(0)), trapped(api.TrapForm, 2, 0))
	each(t, "behind the last word of a call", code.Image{Words: words(calls(0, 0), num(1, 5)), Starts: []int{1, 0}, Frames: []int{0, 0}}, trapped(api.TrapForm, 3))
	each(t, "into the next function", image([]int{0, 0, 0}, words(num(0, 3)), words(show(0), ret(0)), words(calls(1, 0), ret(1))), halted(3, 5, 3))
	each(t, "into another one's jump", image([]int{0, 0}, words(jump(3), ret(0)), words(calls(1, 0), ret(1))), halted(0, 4))
}

// P25.1: a step that traps is counted, and what was printed ahead of it is told; nothing else is done.
func TestTraps(t *testing.T) {
	for trap, w := range map[api.Trap]uint64{
		api.TrapOver:  do(api.Mul, api.I8, 0, 1, 1),
		api.TrapZero:  do(api.Div, api.I8, 0, 1, 2),
		api.TrapShift: do(api.Shl, api.U8, 0, 1, 1),
		api.TrapIndex: at(0, 1, 1, 100),
		api.TrapForm:  raw(0, 0, 0, 0, 0, 0),
	} {
		each(t, fmt.Sprint("trap ", trap), main(num(1, 100), show(1), w, show(1), ret(1)), trapped(trap, 3, 100))
		each(t, fmt.Sprint("trap in a call ", trap), image([]int{0, 0}, words(num(1, 100), show(1), w, show(1), ret(1)), words(show(0), calls(0, 0), show(0), ret(0))), trapped(trap, 5, 0, 100))
	}
}

// P25.1, P2: the same image gives the same; it is neither changed nor kept, and what is answered is new memory.
func TestMemory(t *testing.T) {
	build := func() code.Image {
		im := image(append(make([]int, 0, 9), 3, 2), words(par(0, 0), num(1, 5), store(0, 1), put(1, 2), show(1), ret(1)), words(num(0, 0), arg(0, 0), calls(1, 0), load(2, 0), show(2), put(2, 1), ret(2)))
		im.Words = append(make([]uint64, 0, 99), im.Words...)
		im.Starts = append(make([]int, 0, 9), im.Starts...)
		im.Data = append(make([]int64, 0, 9), 8, 9)
		return im
	}
	im := build()
	want := halted(5, 13, 5, 5)
	first, _ := Run(im, 99)
	second, _ := Run(im, 99)
	first.Trace = append(first.Trace[:1], 7, 7, 7)
	if !alike(second, want) {
		t.Errorf("answers share memory: %+v", second)
	}
	same := build()
	for what, equal := range map[string]bool{
		"Words":  slices.Equal(im.Words[:99], same.Words[:99]),
		"Starts": slices.Equal(im.Starts[:9], same.Starts[:9]),
		"Frames": slices.Equal(im.Frames[:9], same.Frames[:9]),
		"Data":   slices.Equal(im.Data[:9], same.Data[:9]),
	} {
		if !equal {
			t.Errorf("%s are changed", what)
		}
	}
	for k := range im.Words {
		im.Words[k] = ret(0)
	}
	im.Data[0], im.Starts[0], im.Frames[0] = 77, 1, 9
	if third, _ := Run(build(), 99); !alike(second, want) || !alike(third, want) {
		t.Errorf("what was handed in is kept: %+v, %+v", second, third)
	}
}

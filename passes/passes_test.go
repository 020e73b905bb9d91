// Package passes asks the layers that make code of code what holds for all of them: that both sides do the same, for code of programs and code made up at random; that what is left, and what a fault does, is what their chapters say; and the rules of errors and of memory. What layers 19 and 23 tell of such code is asked here, too, and whether the images that layer 24 makes of it do the same on the machine.
package passes

import (
	"math/rand"
	"reflect"
	"slices"
	"testing"

	"burin/api"
	"burin/cse"
	"burin/dead"
	"burin/flow"
	"burin/fold"
	"burin/gen"
	"burin/inline"
	"burin/ir"
	"burin/lower"
	"burin/parse"
	"burin/prop"
	"burin/run"
)

// layer is such a layer.
type layer struct {
	name string
	run  func(api.Code, bool) (api.Code, api.Errno)
}

func layers() []layer {
	l := []layer{{"inline", inline.Run}, {"dead", dead.Run}, {"flow", flow.Run}}
	for _, p := range table() {
		l = append(l, p.layer)
	}
	return l
}

// pass is one of those that leave all instructions in their places, and what its chapter asks for.
type pass struct {
	layer
	part  func(*api.Part, bool)     // what becomes of a part, with the fault and without
	left  func(api.Part, bool) bool // is there what mustn't be left?
	blank func(*api.Part)           // makes 0 of what may be changed
}

// passes is how many there are.
const passes = 3

func table() [passes]pass {
	return [passes]pass{
		{layer{"fold", fold.Run}, foldOf, leftByFold, blankFold},
		{layer{"prop", prop.Run}, propOf, leftByProp, blankProp},
		{layer{"cse", cse.Run}, cseOf, leftByCse, blankCse},
	}
}

// of: what a pass makes of right code, which must be right, have all in its place, and nothing left.
func (p pass) of(t *testing.T, c api.Code, fault bool) api.Code {
	t.Helper()
	d, e := p.run(c, fault)
	if e != api.OK || ir.Valid(d) != api.OK {
		t.Fatalf("%s(%+v, %v): %d, Valid %d", p.name, c, fault, e, ir.Valid(d))
	}
	if !reflect.DeepEqual(eachPart(c, p.blank), eachPart(d, p.blank)) {
		t.Fatalf("%s(%+v, %v) = %+v: not all is in its place", p.name, c, fault, d)
	}
	for _, f := range d.Fns {
		for _, part := range f.Parts {
			if p.left(part, fault) {
				t.Fatalf("%s(%+v, %v): something is left in %+v", p.name, c, fault, part)
			}
		}
	}
	return d
}

func alike(a, b api.Outcome) bool {
	return a.Halted == b.Halted && a.Exit == b.Exit && a.Trap == b.Trap && a.Fuel == b.Fuel && a.Steps == b.Steps && slices.Equal(a.Trace, b.Trace)
}

// noLonger: does the other side halt as this one does, in no more steps?
func noLonger(want, got api.Outcome) bool {
	steps := got.Steps
	got.Steps = want.Steps
	return want.Halted && alike(want, got) && steps <= want.Steps
}

func outcome(t *testing.T, c api.Code, fuel int) api.Outcome {
	t.Helper()
	o, e := run.Run(c, fuel)
	if e != api.OK {
		t.Fatalf("run.Run(%+v): %d", c, e)
	}
	return o
}

// both runs both sides; none of these passes moves a trap, so what doesn't halt is alike, too.
func (p pass) both(t *testing.T, c api.Code, fuel int) api.Outcome {
	t.Helper()
	d := p.of(t, c, false)
	want, got := outcome(t, c, fuel), outcome(t, d, fuel)
	if !alike(want, got) {
		t.Fatalf("%s(%+v) = %+v: %+v; want %+v", p.name, c, d, got, want)
	}
	return want
}

// asSaid: what a pass makes of right code, which must be what is made of its parts a second way.
func (p pass) asSaid(t *testing.T, c api.Code, fault bool) api.Code {
	t.Helper()
	d := p.of(t, c, fault)
	if want := eachPart(c, func(part *api.Part) { p.part(part, fault) }); !reflect.DeepEqual(d, want) {
		t.Fatalf("%s(%+v, %v) = %+v; want %+v", p.name, c, fault, d, want)
	}
	return d
}

// P16.1, P17.1, P18.1, P5: code made up of any right instructions does the same behind each pass, and behind one after the other; P16.2, P17.2, P18.2: what the fault makes of it is what the chapter says, and nothing else.
func TestMadeUp(t *testing.T) {
	r := rand.New(rand.NewSource(16))
	var halted, spent, changed, wrong [passes]int
	traps := map[api.Trap]int{}
	for range 9000 {
		c := madeUp(r)
		for n, p := range table() {
			o := p.both(t, c, 400)
			right, faulty := p.asSaid(t, c, false), p.asSaid(t, c, true)
			for _, other := range table() {
				other.both(t, right, 400)
			}
			if !reflect.DeepEqual(right, faulty) {
				changed[n]++
			}
			switch {
			case o.Halted:
				halted[n]++
				if !alike(o, outcome(t, faulty, 400)) {
					wrong[n]++
				}
			case o.Fuel:
				spent[n]++
			}
			traps[o.Trap]++
		}
	}
	t.Logf("%d halted, %d spent, traps %v; changed by the fault: %d, made wrong: %d", halted, spent, traps, changed, wrong)
	for n, p := range table() {
		if halted[n] < 1000 || spent[n] < 1000 || changed[n] < 500 || wrong[n] < 10 {
			t.Errorf("%s: %d halted, %d spent, %d changed by the fault, %d wrong", p.name, halted[n], spent[n], changed[n], wrong[n])
		}
	}
	if len(traps) < 6 {
		t.Errorf("traps %v", traps)
	}
}

func drawn(t *testing.T, r *rand.Rand) api.Node {
	t.Helper()
	list := make([]uint64, 20+r.Intn(500))
	for i := range list {
		list[i] = r.Uint64() >> r.Intn(64)
	}
	n, _, e := gen.Make(gen.Config{Funcs: r.Intn(5), Stats: 1 + r.Intn(8), Depth: 1 + r.Intn(4), Size: 20 + r.Intn(600)}, list)
	if e != api.OK {
		t.Fatal(e)
	}
	return n
}

func lowered(t *testing.T, n api.Node) api.Code {
	t.Helper()
	c, at, e := lower.Program(n)
	if e != api.OK {
		t.Fatalf("Program: %d at %d", e, at)
	}
	return c
}

func read(t *testing.T, s string) api.Code {
	t.Helper()
	n, at, e := parse.Parse(s)
	if e != api.OK {
		t.Fatalf("Parse(%q): %d at %d", s, e, at)
	}
	return lowered(t, n)
}

// P16.1, P17.1, P18.1, P5: the code of programs from draws.
func TestDrawn(t *testing.T) {
	r := rand.New(rand.NewSource(17))
	prints, changed, wrong := 0, 0, [passes]int{}
	for range 1200 {
		c := lowered(t, drawn(t, r))
		for n, p := range table() {
			o := p.both(t, c, api.MaxFuel)
			if !o.Halted {
				t.Fatalf("%+v: %+v", c, o)
			}
			d := p.of(t, c, false)
			for _, other := range table() {
				other.both(t, d, api.MaxFuel)
			}
			if !reflect.DeepEqual(c, d) {
				changed++
			}
			if !alike(o, outcome(t, p.of(t, c, true), 1000+o.Steps)) {
				wrong[n]++
			}
			prints += len(o.Trace)
		}
	}
	t.Logf("%d numbers printed, %d codes changed; made wrong by the fault: %d", prints, changed, wrong)
	if prints < 5000 || changed < 500 || wrong[0] < 20 { // what the other faults make wrong is seldom drawn
		t.Errorf("%d numbers printed, %d codes changed, %d wrong by the fault", prints, changed, wrong)
	}
}

// texts of programs that halt and that trap, in known numbers and in others.
var texts = []string{
	"i32 main() { }",
	"i32 main() { print(1i32 + 2i32 * 3i32 - -4i32); print(!(~5u8 ^ 7u8)); print((i8)200u8); print((u32)-1i8 >> 3u8); return 7i32 % 4i32; }",
	"i32 main() { print(1u8); print(5i8 / 0i8); print(2u8); }",
	"i32 main() { print(1u8); i8 x = 127i8; print(x + 1i8); }",
	"i32 main() { print(1u8 << 7u8); print(1u8 << 8u8); }",
	"u8 a[3i32]; i32 main() { a[2i32] = 5u8; print(a[1i32 + 1i32]); print(a[3i32]); }",
	"u8 a = 5u8; u8 b = 3u8; i32 main() { u8 x = a; u8 y = b; print(x - y); print(y - x); return 0i32; }",
	"i32 f(i32 x) { i32 y = x; x = 2i32; print(y); return x; } i32 main() { i32 r; r = f(1i32); return r; }",
	"u8 f(u8 *p, u8 q) { *p = *p + q; q = *p; return q; } i32 main() { u8 x = 3u8; u8 y = x; x = f(&x, y); y = f(&y, x); print(x); print(y); for i = 0i32 to 4i32 { u8 z = x; x = y; y = z; print(x - y); if (x > y) { print(i); } else { x = z + 1u8; } } return (i32)x; }",
	"struct s { i8 x; u8 y; } struct s v; i32 main() { i8 x = -1i8; v.x = x; v.y = 3u8; x = v.x ? x : -x; print(x && v.y || 1u8); print(x); i32 k; for i = 0i32 to 16i32 { k = k * 3i32 + i; } return k; }",
}

// P16.1, P17.1, P18.1: the code of these, which may trap; P5: they stand one behind the other.
func TestTexts(t *testing.T) {
	traps := map[api.Trap]int{}
	for _, s := range texts {
		c := read(t, s)
		for _, p := range table() {
			traps[p.both(t, c, api.MaxFuel).Trap]++
		}
		d := c
		for range 3 {
			for _, p := range table() {
				d = p.of(t, d, false)
			}
		}
		if want, got := outcome(t, c, api.MaxFuel), outcome(t, d, api.MaxFuel); !alike(want, got) {
			t.Errorf("%s: %+v; want %+v", s, got, want)
		}
	}
	if len(traps) < 5 {
		t.Errorf("traps %v", traps)
	}
}

// P16.2, P17.2, P18.2, P20.2, P21.2, P22.2: programs that the faults make wrong.
func TestFaults(t *testing.T) {
	five := read(t, "i32 main() { print(2i32 + 3i32); return 0i32; }")
	for fault, want := range map[bool]int64{false: 5, true: 6} {
		d, _ := fold.Run(five, fault)
		if o := outcome(t, d, 99); !slices.Equal(o.Trace, []int64{want}) || o.Exit != 0 {
			t.Errorf("fold, fault %v: %+v", fault, o)
		}
	}
	kept := read(t, "i32 f(i32 x) { i32 y = x; x = 2i32; print(y); return x; } i32 main() { i32 r; r = f(1i32); return r; }")
	for fault, want := range map[bool]int64{false: 1, true: 2} {
		d, _ := prop.Run(kept, fault)
		if o := outcome(t, d, 99); !slices.Equal(o.Trace, []int64{want}) || o.Exit != 2 {
			t.Errorf("prop, fault %v: %+v", fault, o)
		}
	}
	twice := read(t, "i32 f(i32 x, i32 y) { print(x - y); print(y - x); print(x - y); return 0i32; } i32 main() { i32 r; r = f(5i32, 3i32); return r; }")
	for fault, want := range map[bool]int64{false: -2, true: 2} {
		d, _ := cse.Run(twice, fault)
		if o := outcome(t, d, 99); !slices.Equal(o.Trace, []int64{2, want, 2}) || o.Exit != 0 {
			t.Errorf("cse, fault %v: %+v", fault, o)
		}
	}
	stored := read(t, "i32 g; i32 main() { g = 1i32; print(g); return 0i32; }")
	for fault, want := range map[bool]int64{false: 1, true: 0} {
		d, _ := dead.Run(stored, fault)
		if o := outcome(t, d, 99); !slices.Equal(o.Trace, []int64{want}) || o.Exit != 0 {
			t.Errorf("dead, fault %v: %+v", fault, o)
		}
	}
	known := read(t, "i32 main() { if (1i32) { print(1i32); } else { print(2i32); } return 0i32; }")
	for fault, want := range map[bool]int64{false: 1, true: 2} {
		d, _ := fold.Run(known, false)
		d, _ = flow.Run(d, fault)
		if o := outcome(t, d, 99); !slices.Equal(o.Trace, []int64{want}) || o.Exit != 0 {
			t.Errorf("flow, fault %v: %+v", fault, o)
		}
	}
	ordered := read(t, "u32 f(u32 x, u32 y) { return x ^ (y << 1u8); } i32 main() { u32 r; r = f(1u32, 2u32); print(r); return 0i32; }")
	for fault, want := range map[bool]int64{false: 5, true: 0} {
		d, _ := inline.Run(ordered, fault)
		if o := outcome(t, d, 99); !slices.Equal(o.Trace, []int64{want}) || o.Exit != 0 {
			t.Errorf("inline, fault %v: %+v", fault, o)
		}
	}
}

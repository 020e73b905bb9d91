package oracle_test

import (
	"math/rand"
	"reflect"
	"slices"
	"testing"

	"burin/api"
	"burin/code"
	"burin/cse"
	"burin/dead"
	"burin/flow"
	"burin/fold"
	"burin/gen"
	"burin/inline"
	"burin/ir"
	"burin/lower"
	"burin/oracle"
	"burin/parse"
	"burin/prop"
	"burin/run"
)

// all: the bits of all passes.
const all = oracle.Inline | oracle.Fold | oracle.Prop | oracle.Cse | oracle.Dead | oracle.Flow

func read(t *testing.T, s string) api.Node {
	t.Helper()
	n, at, e := parse.Parse(s)
	if e != api.OK {
		t.Fatalf("Parse(%q): %d at %d", s, e, at)
	}
	return n
}

func lowered(t *testing.T, n api.Node) api.Code {
	t.Helper()
	c, at, e := lower.Program(n)
	if e != api.OK {
		t.Fatalf("Program: %d at %d", e, at)
	}
	return c
}

// drawn: a program of at most so many nodes.
func drawn(t *testing.T, r *rand.Rand, size int) api.Node {
	t.Helper()
	list := make([]uint64, 20+r.Intn(600))
	for i := range list {
		list[i] = r.Uint64() >> r.Intn(64)
	}
	n, _, e := gen.Make(gen.Config{Funcs: r.Intn(5), Stats: 1 + r.Intn(8), Depth: 1 + r.Intn(4), Size: 20 + r.Intn(size-19)}, list)
	if e != api.OK {
		t.Fatal(e)
	}
	return n
}

func optimized(t *testing.T, c api.Code, passes, faults byte) api.Code {
	t.Helper()
	d, e := oracle.Optimize(c, passes, faults)
	if e != api.OK || ir.Valid(d) != api.OK {
		t.Fatalf("Optimize(%+v, %d, %d): %d, Valid %d", c, passes, faults, e, ir.Valid(d))
	}
	return d
}

// layer does a pass.
type layer func(api.Code, bool) (api.Code, api.Errno)

// layers: the one of the bit 1 << i at i.
func layers() []layer {
	return []layer{inline.Run, fold.Run, prop.Run, cse.Run, dead.Run, flow.Run}
}

func (l layer) of(t *testing.T, c api.Code, fault bool) api.Code {
	t.Helper()
	d, e := l(c, fault)
	if e != api.OK {
		t.Fatalf("a pass of %+v: %d", c, e)
	}
	return d
}

// byHand: what the passes make of code, one after the other.
func byHand(t *testing.T, c api.Code, passes, faults byte) api.Code {
	t.Helper()
	c = ir.Copy(c)
	for i, l := range layers() {
		if bit := byte(1) << i; passes&bit != 0 {
			c = l.of(t, c, faults&bit != 0)
		}
	}
	return c
}

// texts of programs on which the passes come in each other's way.
var texts = []string{
	"i32 main() { }",
	"i32 main() { print(2i32 + 3i32); return 0i32; }",
	"u8 g; i32 main() { print(1u8); if (1u8) { print(2u8); } u8 x = 1u8; u8 y = x; if (y) { print(y); } if (g) { x = x + 1u8; } return 3i32; }",
	"u8 f(u8 x) { if (x) { return 1u8; } return 2u8; } i32 main() { u8 r; r = f(3u8); print(r); return 0i32; }",
	"u8 a(u8 x) { return x + 1u8; } u8 b(u8 x) { x = a(x); return x; } u8 c(u8 x) { x = b(x); return x; } i32 main() { u8 r; r = c(5u8); print(r); return 0i32; }",
	"u8 a = 5u8; u8 b = 3u8; i32 main() { u8 x = a; u8 y = b; print(x - y); print(y - x); return 0i32; }",
	"i32 f(i32 x) { i32 y = x; x = 2i32; print(y); return x; } i32 main() { i32 r; r = f(1i32); return r; }",
	"u32 f(u32 x, u32 y) { return x ^ (y << 1u8); } i32 main() { u32 r; r = f(1u32, 2u32); print(r); return 0i32; }",
	"i32 g; i32 main() { g = 1i32; print(g); if (1i32) { print(1i32); } else { print(2i32); } for i = 0i32 to 3i32 { print(i); } return 0i32; }",
	"u8 f(u8 *p, u8 q) { *p = *p + q; q = *p; return q; } i32 main() { u8 x = 3u8; u8 y = x; x = f(&x, y); y = f(&y, x); print(x); print(y); for i = 0i32 to 4i32 { u8 z = x; x = y; y = z; print(x - y); if (x > y) { print(i); } else { x = z + 1u8; } } return (i32)x; }",
}

// some: the code of these texts, and of programs from draws.
func some(t *testing.T, r *rand.Rand, many int) []api.Code {
	t.Helper()
	var list []api.Code
	for _, s := range texts {
		list = append(list, lowered(t, read(t, s)))
	}
	for range many {
		list = append(list, lowered(t, drawn(t, r, 400)))
	}
	return list
}

// P26.1: the passes that are asked for, and no others, each once, in their order, with their faults: for all sets of passes, without faults and with many sets of them.
func TestOptimize(t *testing.T) {
	r := rand.New(rand.NewSource(26))
	for _, c := range some(t, r, 12) {
		for passes := range all + 1 {
			faults := []byte{0, passes, byte(r.Intn(64))}
			for i := range 6 {
				faults = append(faults, 1<<i)
			}
			for _, f := range faults {
				if got, want := optimized(t, c, passes, f), byHand(t, c, passes, f); !reflect.DeepEqual(got, want) {
					t.Fatalf("Optimize(%+v, %d, %d) = %+v; want %+v", c, passes, f, got, want)
				}
			}
		}
	}
}

// P26.1: the order of each two passes, and that each is done once, is to be seen in what is answered: there is code of which the other order, or one pass more, makes something else.
func TestOrder(t *testing.T) {
	r := rand.New(rand.NewSource(27))
	list := some(t, r, 150)
	for i, first := range layers() {
		for j, second := range layers()[:i] {
			seen := 0
			for _, c := range list {
				got := optimized(t, c, 1<<i|1<<j, 0)
				right, wrong := first.of(t, second.of(t, c, false), false), second.of(t, first.of(t, c, false), false)
				if !reflect.DeepEqual(got, right) {
					t.Fatalf("passes %d and %d of %+v: %+v; want %+v", j, i, c, got, right)
				}
				if !reflect.DeepEqual(got, wrong) {
					seen++
				}
			}
			if seen == 0 {
				t.Errorf("the order of the passes %d and %d is not to be seen", j, i)
			}
		}
	}
	seen := 0
	for _, c := range list {
		once := optimized(t, c, oracle.Inline, 0)
		if !reflect.DeepEqual(once, layer(inline.Run).of(t, c, false)) {
			t.Fatalf("Optimize(%+v, Inline) = %+v", c, once)
		}
		if !reflect.DeepEqual(once, layer(inline.Run).of(t, once, false)) {
			seen++
		}
	}
	if seen == 0 {
		t.Error("that Inline is done once is not to be seen")
	}
}

// P26.1, P26.2: bits that mean nothing, among the passes and among the faults; a fault of a pass that isn't done. Last among the passes is one of the former, and of no matter to Optimize; among the faults it is one of Compile's.
func TestBits(t *testing.T) {
	r := rand.New(rand.NewSource(28))
	lasts := 0
	list := []api.Node{drawn(t, r, 300), drawn(t, r, 300)}
	for _, s := range texts {
		list = append(list, read(t, s))
	}
	for _, n := range list {
		c := lowered(t, n)
		for range 60 {
			passes, faults := byte(r.Intn(256)), byte(r.Intn(256))
			got, want := optimized(t, c, passes, faults), optimized(t, c, passes&all, passes&faults&all)
			if !reflect.DeepEqual(got, want) {
				t.Fatalf("Optimize(%+v, %d, %d) = %+v; want %+v", c, passes, faults, got, want)
			}
			last := faults & oracle.Last
			image, other := compiled(t, n, passes, faults), compiled(t, n, passes&all, passes&faults&all|last)
			if !reflect.DeepEqual(image, other) {
				t.Fatalf("Compile(%+v, %d, %d) = %+v; want %+v", n, passes, faults, image, other)
			}
			if last != 0 && !reflect.DeepEqual(image, compiled(t, n, passes, faults-last)) {
				lasts++
			}
		}
	}
	if lasts < 50 {
		t.Errorf("Last made another image %d times", lasts)
	}
}

func compiled(t *testing.T, n api.Node, passes, faults byte) code.Image {
	t.Helper()
	image, at, e := oracle.Compile(n, passes, faults)
	if at != 0 || e != api.OK {
		t.Fatalf("Compile(%+v, %d, %d): %d at %d", n, passes, faults, e, at)
	}
	return image
}

// P26.2: the image is what code.Emit makes of what Optimize makes of lower.Program's code, Last being Emit's fault.
func TestCompile(t *testing.T) {
	r := rand.New(rand.NewSource(29))
	for range 400 {
		n := drawn(t, r, 500)
		passes, faults := byte(r.Intn(256)), byte(r.Intn(256)*r.Intn(2))
		want, e := code.Emit(byHand(t, lowered(t, n), passes, faults), faults&64 != 0)
		if got := compiled(t, n, passes, faults); e != api.OK || !reflect.DeepEqual(got, want) {
			t.Fatalf("Compile(%+v, %d, %d) = %+v; want %+v, %d", n, passes, faults, got, want, e)
		}
	}
}

// sameEnd: did both halt, with the same number and the same trace?
func sameEnd(a, b api.Outcome) bool {
	return a.Halted && b.Halted && a.Exit == b.Exit && slices.Equal(a.Trace, b.Trace)
}

// P26.1, P5: without faults, whatever the passes, code of programs does what it did, within 200 steps more than 200 times those.
func TestOptimizedCodeRuns(t *testing.T) {
	r := rand.New(rand.NewSource(30))
	sets, printed, changed, longer := map[byte]bool{}, 0, 0, 0
	for _, c := range some(t, r, 900) {
		want, e := run.Run(c, api.MaxFuel)
		if e != api.OK || !want.Halted {
			t.Fatalf("run.Run(%+v): %+v, %d", c, want, e)
		}
		printed += len(want.Trace)
		for _, passes := range []byte{1 << r.Intn(6), byte(r.Intn(64)), byte(r.Intn(256)), all} {
			sets[passes&all] = true
			d := optimized(t, c, passes, 0)
			got, e := run.Run(d, min(200*want.Steps+200, api.MaxFuel))
			if e != api.OK || !sameEnd(want, got) {
				t.Fatalf("Optimize(%+v, %d) = %+v: %+v, %d; want %+v", c, passes, d, got, e, want)
			}
			if !reflect.DeepEqual(c, d) {
				changed++
			}
			if got.Steps > want.Steps {
				longer++
			}
		}
	}
	t.Logf("%d sets of passes, %d numbers printed, %d times code was changed, %d times it took more steps", len(sets), printed, changed, longer)
	if len(sets) < 60 || printed < 2000 || changed < 2000 {
		t.Errorf("%d sets of passes, %d numbers printed, %d times code was changed", len(sets), printed, changed)
	}
}

// row: so many instructions, all alike, in a part of their own.
func row(regs, many int, i api.Inst) api.Code {
	return api.Code{Fns: []api.Fn{{Regs: regs, Parts: []api.Part{{Insts: slices.Repeat([]api.Inst{i}, many), End: true}}}}}
}

// P26.1, P1: of code that isn't right ir.Valid's error and no code, whatever the passes and the faults.
func TestOptimizeErrors(t *testing.T) {
	move := api.Inst{Op: api.IMove}
	call := row(1, 1, api.Inst{Op: api.ICall})
	two := api.Code{Fns: slices.Concat(row(1, 1, move).Fns, call.Fns)}
	params := row(1, 1, move)
	params.Fns[0].Params = 1
	for n, r := range []struct {
		c api.Code
		e api.Errno
	}{
		{api.Code{}, api.ErrForm},
		{api.Code{Fns: []api.Fn{}}, api.ErrForm},
		{api.Code{Fns: []api.Fn{{}}}, api.ErrForm},
		{row(0, 0, move), api.ErrForm},
		{row(1, 0, move), api.OK},
		{row(1, 2, api.Inst{Op: 17}), api.ErrForm},
		{row(1, 2, api.Inst{Op: 255}), api.ErrForm},
		{row(1, 2, api.Inst{Op: api.Add, Type: 6}), api.ErrForm},
		{row(1, 2, api.Inst{Op: api.IMove, A: 1}), api.ErrForm},
		{row(1, 2, api.Inst{Op: api.IMove, Dst: -1}), api.ErrForm},
		{row(1, 2, api.Inst{Op: api.IGlobal}), api.ErrForm},
		{call, api.ErrForm},
		{two, api.OK},
		{params, api.ErrForm},
		{row(api.MaxRegs, 1, move), api.OK},
		{row(api.MaxRegs+1, 1, move), api.ErrForm},
		{row(1, api.MaxInsts-1, move), api.OK},
		{row(1, api.MaxInsts, move), api.ErrLimit},
		{row(0, api.MaxInsts, move), api.ErrLimit},
		{api.Code{Globals: []int{1}, Fns: row(1, 1, move).Fns}, api.ErrForm},
	} {
		if e := ir.Valid(r.c); e != r.e {
			t.Fatalf("row %d: Valid = %d; want %d", n, e, r.e)
		}
		for _, passes := range []byte{0, 1, 2, 4, 8, 16, 32, 64, 128, 63, 255} {
			for _, faults := range []byte{0, passes, 64, 255} {
				c, e := oracle.Optimize(r.c, passes, faults)
				if e != r.e || e != api.OK && !reflect.DeepEqual(c, api.Code{}) {
					t.Errorf("row %d: Optimize(.., %d, %d): %d functions, %d; want %d", n, passes, faults, len(c.Fns), e, r.e)
				}
			}
		}
	}
}

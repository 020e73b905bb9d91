package lower

import (
	"fmt"
	"slices"
	"strings"
	"testing"

	"burin/api"
	"burin/eval"
	"burin/ints"
	"burin/ir"
	"burin/parse"
	"burin/run"
	"burin/types"
)

// The signature that the chapter lists.
var _ func(api.Node) (api.Code, int, api.Errno) = Program

func read(t *testing.T, s string) api.Node {
	t.Helper()
	n, at, e := parse.Parse(s)
	if e != api.OK {
		t.Fatalf("Parse(%.500q): %d at %d", s, e, at)
	}
	return n
}

// made: the code of a program, which must be right (P15.1) and of the form that P15.3 asks for.
func made(t *testing.T, what string, n api.Node) api.Code {
	t.Helper()
	c, at, e := Program(n)
	if e != api.OK || at != 0 {
		t.Fatalf("Program(%.2000s): %d at %d", what, e, at)
	}
	if e := ir.Valid(c); e != api.OK {
		t.Fatalf("Valid of the code of %.2000s: %d", what, e)
	}
	formed(t, what, n, c)
	return c
}

// formed: P15.3.
func formed(t *testing.T, what string, n api.Node, c api.Code) {
	t.Helper()
	info, _, _ := types.Resolve(n)
	var cells, params, wantParams, prints, wantPrints []int
	var inits []int64
	for _, g := range info.Globals {
		cells = append(cells, g.Cells)
	}
	for _, item := range n.Kids {
		switch {
		case item.Kind == api.Func:
			wantParams = append(wantParams, len(item.Kids)-1)
			wantPrints = append(wantPrints, nodes(item, api.Print))
		case item.Kind == api.Global && len(item.Kids) == 1:
			inits = append(inits, item.Kids[0].N)
		case item.Kind == api.Global:
			inits = append(inits, 0)
		}
	}
	for _, f := range c.Fns {
		params = append(params, f.Params)
		prints = append(prints, insts(f, api.IPrint))
	}
	if !slices.Equal(c.Globals, cells) || !slices.Equal(c.Inits, inits) || !slices.Equal(params, wantParams) || !slices.Equal(prints, wantPrints) {
		t.Fatalf("%.2000s: globals %v of %v, parameters %v of %v, prints %v of %v", what, c.Globals, cells, params, wantParams, prints, wantPrints)
	}
}

// nodes: how many of a kind there are in a tree.
func nodes(n api.Node, kind byte) int {
	count := 0
	if n.Kind == kind {
		count++
	}
	for _, kid := range n.Kids {
		count += nodes(kid, kind)
	}
	return count
}

// insts: how many instructions of an Op a function has.
func insts(f api.Fn, op byte) int {
	count := 0
	for _, p := range f.Parts {
		for _, i := range p.Insts {
			if i.Op == op {
				count++
			}
		}
	}
	return count
}

// enough: so many steps of eval.Run that those of run.Run can still be asked for.
const enough = (api.MaxFuel - 100) / 100

// hold holds both sides against each other (P15.2); it answers how eval.Run ends.
func hold(t *testing.T, what string, n api.Node) api.Outcome {
	t.Helper()
	return holdWithin(t, what, n, enough)
}

func holdWithin(t *testing.T, what string, n api.Node, fuel int) api.Outcome {
	t.Helper()
	c := made(t, what, n)
	want, at, e := eval.Run(n, fuel)
	if e != api.OK {
		t.Fatalf("eval.Run(%.2000s): %d at %d", what, e, at)
	}
	got, e := run.Run(c, 100+100*want.Steps)
	if e != api.OK {
		t.Fatalf("run.Run(%.2000s): %d", what, e)
	}
	if want.Fuel {
		if !begins(want.Trace, got.Trace) && !begins(got.Trace, want.Trace) {
			t.Fatalf("%.2000s\nspent: %v; want %v", what, got.Trace, want.Trace)
		}
		return want
	}
	trapped := got.Trap != api.NoTrap
	if got.Halted != want.Halted || got.Exit != want.Exit || trapped == want.Halted || !slices.Equal(got.Trace, want.Trace) {
		t.Fatalf("%.2000s\n%+v; want %+v", what, got, want)
	}
	return want
}

// begins: is the one the beginning of the other?
func begins(a, b []int64) bool { return len(a) <= len(b) && slices.Equal(a, b[:len(a)]) }

// A text and how it should end: with an exit, or (if trap isn't NoTrap) by a trap, behind a trace.
type told struct {
	text  string
	exit  int64
	trap  api.Trap
	trace []int64
}

func halts(text string, exit int64, trace ...int64) told { return told{text, exit, api.NoTrap, trace} }

func traps(text string, trap api.Trap, trace ...int64) told { return told{text, 0, trap, trace} }

func judge(t *testing.T, list []told) {
	t.Helper()
	for _, r := range list {
		o := hold(t, r.text, read(t, r.text))
		if o.Fuel || o.Trap != r.trap || o.Exit != r.exit || !slices.Equal(o.Trace, r.trace) {
			t.Errorf("%s\n%+v; want %+v", r.text, o, r)
		}
	}
}

// mains are texts of main's statements alone.
func mains(ahead string, list []told) []told {
	for i := range list {
		list[i].text = ahead + " i32 main() { " + list[i].text + " }"
	}
	return list
}

// The chapter's example.
func TestExample(t *testing.T) {
	n := read(t, "i32 main() { print(1i32); return 7i32; }")
	o, e := run.Run(made(t, "the example", n), 100)
	if e != api.OK || !o.Halted || o.Exit != 7 || !slices.Equal(o.Trace, []int64{1}) {
		t.Errorf("%+v, %d", o, e)
	}
}

// P15.2: each kind of statement.
func TestStatements(t *testing.T) {
	judge(t, mains("struct s { u8 x; i16 y; } u8 g; u8 a[3i32]; struct s v; i16 w = #-7i16; u8 f() { return 9u8; } u8 k(u8 *p) { *p = 5u8; }", []told{
		halts("", 0),
		halts("u8 x; print(x);", 0, 0),
		halts("u8 x = 200u8; print(x);", 0, 200),
		halts("i8 x = #-3i8; i8 y = x; x = 4i8; print(x); print(y); y = x; print(y);", 0, 4, -3, 4),
		halts("u8 x[16i32]; x[15i32] = 4u8; print(x[15i32]); print(x[14i32]);", 0, 4, 0),
		halts("struct s x; x.y = #-9i16; print(x.x); print(x.y);", 0, 0, -9),
		halts("g = 3u8; print(g);", 0, 3),
		halts("a[1i32] = 3u8; print(a[1i32]); print(a[0i32]);", 0, 3, 0),
		halts("v.y = 3i16; print(v.y); print(v.x);", 0, 3, 0),
		halts("print(w); w = 2i16; print(w);", 0, -7, 2),
		halts("if (0i32) { }", 0),
		halts("if (1i32) { } else { }", 0),
		halts("if (0i32) { print(1u8); } print(9u8);", 0, 9),
		halts("if (1i32) { print(1u8); } print(9u8);", 0, 1, 9),
		halts("if (0u8) { print(1u8); } else { print(2u8); print(3u8); } print(9u8);", 0, 2, 3, 9),
		halts("if (2u8) { print(1u8); } else { print(2u8); print(3u8); } print(9u8);", 0, 1, 9),
		halts("if (#-1i8) { print(1u8); } else { print(2u8); }", 0, 1),
		halts("if (4294967295u32) { if (g) { print(1u8); } else { print(2u8); } } else { print(3u8); } print(4u8);", 0, 2, 4),
		halts("if (g) { if (g) { print(1u8); } } else { if (!g) { print(3u8); } else { } } print(4u8);", 0, 3, 4),
		halts("f();", 0),
		halts("g = f(); print(g);", 0, 9),
		halts("u8 x; x = f(); print(x);", 0, 9),
		halts("a[2i32] = f(); print(a[2i32]);", 0, 9),
		halts("v.x = f(); print(v.x);", 0, 9),
		halts("k(&g); print(g);", 0, 5),
		halts("k(&a[2i32]); print(a[2i32]);", 0, 5),
		halts("k(&v.x); print(v.x);", 0, 5),
		halts("g = 1u8; g = k(&g); print(g);", 0, 0),
		halts("u8 x = 1u8; x = k(&x); print(x);", 0, 0),
		halts("return 3i32;", 3),
		halts("return #-2147483648i32;", -2147483648),
	}))
}

// P15.2: loops of no rounds and of many, in one another, at the greatest numbers.
func TestLoops(t *testing.T) {
	judge(t, mains("u32 n;", []told{
		halts("for i = 0i32 to 0i32 { print(i); return 1i32; } print(9u8);", 0, 9),
		halts("for i = 7i32 to 7i32 { print(i); print(1u8 / 0u8); }", 0),
		halts("for i = 2147483647i32 to 2147483647i32 { print(i); }", 0),
		halts("for i = 2147483646i32 to 2147483647i32 { print(i); }", 0, 2147483646),
		halts("for i = 2147483631i32 to 2147483647i32 { n = n + 1u32; } print(n);", 0, 16),
		halts("for i = 0i32 to 1i32 { }", 0),
		halts("for i = 126i32 to 129i32 { print(i); }", 0, 126, 127, 128),
		halts("for i = 254i32 to 257i32 { print(i); }", 0, 254, 255, 256),
		halts("for i = 32766i32 to 32769i32 { print(i); }", 0, 32766, 32767, 32768),
		halts("for i = 65534i32 to 65537i32 { print(i); }", 0, 65534, 65535, 65536),
		halts("for i = 2i32 to 5i32 { print(i); }", 0, 2, 3, 4),
		halts("for i = 0i32 to 16i32 { n = n * 2u32 + (u32)i; } print(n);", 0, 65519),
		halts("for i = 0i32 to 2i32 { for j = 1i32 to 3i32 { print(i + j); } print(#-1i8); }", 0, 1, 2, -1, 2, 3, -1),
		halts("for i = 0i32 to 3i32 { for j = 0i32 to 0i32 { print(j); } print(i); }", 0, 0, 1, 2),
		halts("for i = 0i32 to 0i32 { for j = 0i32 to 3i32 { print(j); } print(i); }", 0),
		halts("for i = 0i32 to 2i32 { for i = 5i32 to 7i32 { print(i); } print(i); }", 0, 5, 6, 0, 5, 6, 1),
		halts("i32 i = 5i32; for i = 0i32 to 2i32 { print(i); i32 i = i + 10i32; print(i); i = 99i32; } print(i);", 0, 0, 10, 1, 11, 5),
		halts("for i = 0i32 to 4i32 { if (i % 2i32) { for j = 0i32 to 2i32 { n = n + 1u32; } } else { print(n); } } print(n);", 0, 0, 2, 4),
		halts("for i = 0i32 to 16i32 { for j = 0i32 to 16i32 { for k = 0i32 to 16i32 { n = n + 1u32; } } } print(n);", 0, 4096),
	}))
}

// P15.2: a Ret ends the call wherever it stands; what stands behind it isn't run, but is code (P15.3).
func TestReturns(t *testing.T) {
	judge(t, mains("u8 g; u8 f(u8 x) { if (x) { return x; } print(70u8); }", []told{
		halts("return 3i32; print(1i32);", 3),
		halts("return 3i32; return 4i32; return 5i32; print(1i32);", 3),
		halts("i32 x = 6i32; return x; return x; x = 7i32; return x;", 6),
		halts("return 3i32; for i = 0i32 to 3i32 { print(i); return i; } print(1u8);", 3),
		halts("return 3i32; if (g) { print(1u8); } else { return 4i32; } print(g);", 3),
		halts("return 3i32; g = f(1u8); print(g && g);", 3),
		halts("if (1i32) { return 3i32; } print(1i32);", 3),
		halts("if (0i32) { return 3i32; } print(1i32);", 0, 1),
		halts("if (0i32) { } else { return 3i32; } print(1i32);", 3),
		halts("if (1i32) { } else { return 3i32; } print(1i32);", 0, 1),
		halts("if (g) { return 3i32; } else { return 4i32; }", 4),
		halts("if (!g) { return 3i32; } else { return 4i32; } print(1i32);", 3),
		halts("if (g) { return 3i32; print(1u8); } else { print(2u8); return 4i32; print(3u8); } print(4u8); return 5i32;", 4, 2),
		halts("for i = 4i32 to 9i32 { return i; } print(1i32);", 4),
		halts("for i = 4i32 to 9i32 { return i; print(i); } print(1i32);", 4),
		halts("for i = 4i32 to 4i32 { return i; } print(1i32); return 2i32;", 2, 1),
		halts("for i = 4i32 to 9i32 { if (i == 6i32) { return i; } print(i); }", 6, 4, 5),
		halts("for i = 4i32 to 9i32 { if (i < 6i32) { print(i); } else { return i; } }", 6, 4, 5),
		halts("for i = 4i32 to 9i32 { for j = 0i32 to 3i32 { if (j) { return i + j; } } print(i); } print(1i32);", 5),
		halts("g = f(0u8); print(g); g = f(4u8); print(g); f(0u8);", 0, 70, 0, 4, 70),
	}))
	// Behind its Block a call answers 0, whatever ran ahead of that.
	judge(t, []told{
		halts("u8 f() { } i32 main() { u8 x = 5u8; x = f(); print(x); }", 0, 0),
		halts("u8 f() { if (0i32) { return 3u8; } } i32 main() { u8 x = 5u8; x = f(); print(x); }", 0, 0),
		halts("u8 f() { if (1i32) { return 3u8; } } i32 main() { u8 x = 5u8; x = f(); print(x); }", 0, 3),
		halts("u8 f(u8 x) { x = 7u8; } i32 main() { u8 x = 5u8; x = f(x); print(x); }", 0, 0),
		halts("u8 f() { for i = 0i32 to 3i32 { return 3u8; } } i32 main() { u8 x = 5u8; x = f(); print(x); }", 0, 3),
		halts("u8 f() { for i = 3i32 to 3i32 { return 3u8; } } i32 main() { u8 x = 5u8; x = f(); print(x); }", 0, 0),
		halts("u8 f() { return 3u8; } u8 g() { f(); } i32 main() { u8 x = 5u8; x = g(); print(x); }", 0, 0),
	})
}

// sources: ways to read a number of a type that is known, or is kept in a register or a cell: what is declared ahead of main, what stands in main, and how it is read. (T is the type, V the name, L the number, S a struct.)
var sources = []struct{ global, local, read string }{
	{"", "", "L"},
	{"", "T V = L; ", "V"},
	{"T V = L; ", "", "V"},
	{"T V[3i32]; ", "V[1i32] = L; ", "V[1u8]"},
	{"", "T V[3i32]; V[2i32] = L; ", "V[2i16]"},
	{"", "struct S V; V.y = L; ", "V.y"},
}

var words = []string{"i8", "u8", "i16", "u16", "i32", "u32"}

// lit: the text of a number.
func lit(t byte, v int64) string {
	s := fmt.Sprint(v, words[t])
	if v < 0 {
		s = "#" + s
	}
	return s
}

// number: the source with a type, a name and a number.
func number(k int, t byte, name string, v int64) (global, local, read string) {
	s := sources[k]
	r := strings.NewReplacer("T", words[t], "V", name, "L", lit(t, v), "S", "s"+name)
	global, local, read = r.Replace(s.global), r.Replace(s.local), r.Replace(s.read)
	if strings.Contains(s.local, "S") {
		global += "struct s" + name + " { u8 x; " + words[t] + " y; } "
	}
	return global, local, read
}

// edges: numbers of a type about its edges, and small ones.
func edges(t byte) []int64 {
	s := ints.Span(t)
	var list []int64
	for _, v := range []int64{s.Low, s.Low + 1, -2, -1, 0, 1, 2, 7, int64(ints.Width(t)) - 1, int64(ints.Width(t)), s.High - 1, s.High} {
		if ints.Fits(t, v) && !slices.Contains(list, v) {
			list = append(list, v)
		}
	}
	return list
}

var signs = []string{"+", "-", "*", "/", "%", "&", "|", "^", "<<", ">>", "<", "<=", ">", ">=", "==", "!=", "&&", "||"}

// reckoned: what is printed, or a trap behind what was printed ahead of it.
func reckoned(text string, v int64, trap api.Trap) told {
	if trap != api.NoTrap {
		return traps(text, trap, 5)
	}
	return halts(text, 0, 5, v, 6)
}

// truth: of LAnd and LOr.
func truth(op byte, a, b int64) int64 {
	if op == api.LAnd && a != 0 && b != 0 || op == api.LOr && (a != 0 || b != 0) {
		return 1
	}
	return 0
}

// operand: a number of a type.
type operand struct {
	of byte
	v  int64
}

// two asks an operation of two numbers, which come from other sources each time: k counts the times.
func two(t *testing.T, k int, op byte, a, b operand) {
	t.Helper()
	g1, l1, r1 := number(k%len(sources), a.of, "a", a.v)
	g2, l2, r2 := number(k/len(sources)%len(sources), b.of, "b", b.v)
	v, trap := ints.Do(op, a.of, a.v, b.v)
	if op > api.Ne {
		v, trap = truth(op, a.v, b.v), api.NoTrap
	}
	text := fmt.Sprint(g1, g2, "i32 main() { ", l1, l2, "print(5u8); print(", r1, signs[op-1], r2, "); print(6u8); }")
	judge(t, []told{reckoned(text, v, trap)})
}

// P15.2: every operation of two numbers, of every type, with numbers from everywhere, and with its traps.
func TestOperationsOfTwo(t *testing.T) {
	k := 0
	for op := api.Add; op <= api.LOr; op++ {
		for of := range byte(6) {
			for _, a := range edges(of) {
				for _, b := range edges(of) {
					two(t, k, op, operand{of, a}, operand{of, b})
					k++
				}
			}
		}
	}
}

// P15.2: operations whose two numbers need not be of one type.
func TestOperationsOfTwoTypes(t *testing.T) {
	k := 0
	for _, op := range []byte{api.Shl, api.Shr, api.LAnd, api.LOr} {
		for pair := range byte(36) {
			first, second := pair/6, pair%6
			for _, a := range []int64{0, 1, ints.Span(first).Low, ints.Span(first).High} {
				for _, b := range edges(second) {
					two(t, k, op, operand{first, a}, operand{second, b})
					k++
				}
			}
		}
	}
}

// P15.2: operations of one number, and casts from every type to every type.
func TestOperationsOfOne(t *testing.T) {
	k := 0
	for typ := range byte(6) {
		for _, a := range edges(typ) {
			for range len(sources) {
				k++
				g, l, r := number(k%len(sources), typ, "a", a)
				text := func(prefix string) string {
					return fmt.Sprint(g, "i32 main() { ", l, "print(5u8); print(", prefix, "(", r, ")); print(6u8); }")
				}
				for op, sign := range []string{api.Neg: "-", api.Not: "~", api.Bang: "!"} {
					if sign != "" {
						v, trap := ints.Un(byte(op), typ, a)
						judge(t, []told{reckoned(text(sign), v, trap)})
					}
				}
				for to, word := range words {
					judge(t, []told{reckoned(text("("+word+")"), ints.Wrap(byte(to), a), api.NoTrap)})
				}
			}
		}
	}
}

// P15.2: what isn't reckoned by eval.Run doesn't trap; what is, does, from the left.
func TestWhatIsNotReckoned(t *testing.T) {
	judge(t, mains("u8 z; u8 one = 1u8; u8 a[2i32];", []told{
		halts("print(z && 1u8 / z);", 0, 0),
		halts("print(one || 1u8 / z);", 0, 1),
		halts("print(z && a[7i32]);", 0, 0),
		halts("print(one || a[7i32]);", 0, 1),
		traps("print(4u8); print(one && 1u8 / z);", api.TrapZero, 4),
		traps("print(4u8); print(z || 1u8 / z);", api.TrapZero, 4),
		traps("print(4u8); print(1u8 / z && z);", api.TrapZero, 4),
		traps("print(4u8); print(a[7i32] || one);", api.TrapIndex, 4),
		halts("print(z ? 1u8 / z : 8u8); print(one ? 8u8 : 1u8 / z);", 0, 8, 8),
		traps("print(one ? 1u8 / z : 8u8);", api.TrapZero),
		traps("print(z ? 8u8 : a[2i32]);", api.TrapIndex),
		traps("print(1u8 / z ? 8u8 : a[2i32]);", api.TrapZero),
		halts("print(z && one || one && z || one);", 0, 1),
		halts("print(z && (one || 1u8 / z) || !z && (z || 3u8));", 0, 1),
		halts("print((z ? one : z) ? 3u8 : (one ? 4u8 : 5u8));", 0, 4),
		halts("print((z || one ? 3u8 : 1u8 / z) + (z && one ? 1u8 / z : 4u8));", 0, 7),
		halts("if (one && !z) { print(1u8); } if (z || z) { print(2u8); } else { print(3u8); }", 0, 1, 3),
		halts("a[z || one] = 4u8; print(a[1i32]); print(a[one && one ? 0u8 : 7u8]);", 0, 4, 0),
		halts("if (z) { print(1u8 / z); a[9i32] = 1u8; }", 0),
		traps("a[2i32] = 1u8 / z;", api.TrapIndex),
		traps("a[1i32] = 1u8 / z;", api.TrapZero),
	}))
}

// P15.2: an expression reads the variable that takes its number.
func TestTheTakerIsRead(t *testing.T) {
	for _, ahead := range []string{"", "i32 x; i32 y;"} { // in registers, or in cells
		declared := "i32 x = 5i32; i32 y = 3i32;"
		if ahead != "" {
			declared = "x = 5i32; y = 3i32;"
		}
		var list []told
		for s, v := range map[string]int64{
			"x = x;":                                          5,
			"x = x + x;":                                      10,
			"x = x - (y ? x : 1i32);":                         0,
			"x = y && x > 4i32;":                              1,
			"x = !y || x > 4i32;":                             1,
			"x = y || x / 0i32;":                              1,
			"x = !y && x / 0i32;":                             0,
			"x = !y && x;":                                    0,
			"x = x > 9i32 || x > 4i32;":                       1,
			"x = x && x && x == 5i32;":                        1,
			"x = x && (x && x == 6i32);":                      0,
			"x = y ? x + 1i32 : x;":                           6,
			"x = y ? x : x + 1i32;":                           5,
			"x = !y ? x : x + (x && y);":                      6,
			"x = (x ? y : x) ? x * y : x && y ? 1i32 : 2i32;": 15,
			"x = -x; x = ~x; x = (i32)(u8)x;":                 4,
			"x = (x && y) + (x || y) + x;":                    7,
			"y = x; x = 9i32; x = y;":                         5,
			"y = x; x = 9i32;":                                9,
		} {
			list = append(list, halts(declared+s+"print(x);", 0, v))
		}
		judge(t, mains(ahead, list))
	}
}

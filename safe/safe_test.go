package safe

import (
	"fmt"
	"math/rand"
	"slices"
	"strings"
	"testing"

	"burin/api"
	"burin/eval"
	"burin/ints"
	"burin/parse"
	"burin/show"
	"burin/span"
	"burin/tree"
	"burin/types"
)

// The signatures that the chapter lists.
var (
	_ func(api.Node) (int, int, api.Errno)   = Check
	_ func(api.Node) ([]int, int, api.Errno) = Costs
)

func read(t *testing.T, s string) api.Node {
	t.Helper()
	n, at, e := parse.Parse(s)
	if e != api.OK {
		t.Fatalf("Parse(%.500q): %d at %d", s, e, at)
	}
	return n
}

func inMain(s string) string { return "i32 main() { " + s + " }" }

// readExpression: the tree of an expression alone.
func readExpression(t *testing.T, s string) api.Node {
	t.Helper()
	return read(t, inMain("print("+s+");")).Kids[0].Kids[0].Kids[0].Kids[0]
}

// number of the first node that is the same as that one.
func number(t *testing.T, n, wanted api.Node) int {
	t.Helper()
	for i := range tree.Size(n) {
		if m, _ := tree.At(n, i); tree.Same(m, wanted) {
			return i
		}
	}
	t.Fatal("there is no such node")
	return 0
}

// isSafe asks the steps of each function, and P11.2: a run halts within those of main. It answers how many it took.
func isSafe(t *testing.T, s string, list ...int) int {
	t.Helper()
	n := read(t, s)
	answers(t, n, list, 0, api.OK)
	return halts(t, s, n, list[len(list)-1])
}

// halts: P11.2, P4.
func halts(t *testing.T, s string, n api.Node, steps int) int {
	t.Helper()
	o, _, e := eval.Run(n, steps)
	if e != api.OK || !o.Halted || o.Trap != api.NoTrap || o.Steps > steps {
		t.Fatalf("%.3000s\nwith %d steps: %+v, %d", s, steps, o, e)
	}
	return o.Steps
}

// isExact asks of a program whose run leaves out nothing that it takes just so many steps.
func isExact(t *testing.T, s string, list ...int) {
	t.Helper()
	if took := isSafe(t, s, list...); took != list[len(list)-1] {
		t.Errorf("%.3000s\ntook %d steps", s, took)
	}
}

func isBroken(t *testing.T, s string, at int, e api.Errno) {
	t.Helper()
	answers(t, read(t, s), nil, at, e)
}

// The chapter's examples.
func TestExamples(t *testing.T) {
	isExact(t, "i32 main() { print(1i32); return 7i32; }", 4)
	isExact(t, "i32 main() { u8 a[4i32]; u8 x; print(a[x % 4u8]); return 0i32; }", 1+1+5+2)
	isBroken(t, "i32 main() { u8 a[4i32]; u8 x; print(a[x]); return 0i32; }", 6, api.ErrUnsafe)
	isExact(t, "i32 main() { u8 x; print(x / (x | 1u8)); return 0i32; }", 1+6+2)
	isBroken(t, "i32 main() { u8 x; print(x / x); return 0i32; }", 5, api.ErrUnsafe)
	isBroken(t, "i32 main() { i8 x; print(x + 1i8); return 0i32; }", 5, api.ErrUnsafe)
	isExact(t, "i32 main() { i8 x; print((i8)((u8)x + 1u8)); return 0i32; }", 1+6+2)
}

const things = "struct s { u8 x; i16 y; } u8 g; u8 a[3i32]; struct s v; i16 w = #-7i16; u8 f() { return 9u8; } u8 k(u8 *p, u8 q) { *p = 5u8; } "

// P11.1: the steps of each kind of statement and of variable, counted by hand.
func TestStatements(t *testing.T) {
	for _, r := range []struct {
		text  string
		steps int
	}{
		{"", 0},
		{"u8 x;", 1},
		{"u8 x[16i32];", 1},
		{"struct s x;", 1},
		{"u8 x = 200u8;", 2},
		{"u8 x = g;", 2},
		{"g = 3u8;", 3},
		{"a[1i32] = g;", 4},
		{"v.y = 3i16;", 3},
		{"print(v.y);", 2},
		{"print(a[0u8]);", 3},
		{"return 3i32;", 2},
		{"u8 x; u8 y; u8 z;", 3},
		{"for i = 0i32 to 1i32 { }", 2},
		{"for i = 0i32 to 16i32 { }", 17},
		{"for i = 2147483631i32 to 2147483647i32 { }", 17},
		{"for i = 2i32 to 5i32 { print(i); }", 1 + 3*3},
		{"for i = 2i32 to 5i32 { print(i); u8 x; }", 1 + 3*4},
		{"for i = 0i32 to 2i32 { for j = 1i32 to 4i32 { print(i + j); } }", 1 + 2*(1+1+3*(1+4))},
		{"for i = 0i32 to 2i32 { u8 x; for j = 1i32 to 4i32 { } u8 y; }", 1 + 2*(1+1+4+1)},
		{"for i = 0i32 to 2i32 { for i = 1i32 to 4i32 { for i = 5i32 to 7i32 { } } }", 1 + 2*(1+1+3*(1+3))},
		{"f();", 3},
		{"g = f();", 4},
		{"a[2i32] = f();", 5},
		{"v.x = f();", 4},
		{"k(&g, 1u8);", 1 + 1 + 1 + 3},
		{"k(&a[2i32], 1u8);", 1 + 2 + 1 + 3},
		{"k(&v.x, g + 1u8);", 1 + 1 + 3 + 3},
		{"g = k(&a[0i32], a[1i32]);", 1 + 1 + 2 + 2 + 3},
		{"a[1i32] = k(&g, g);", 1 + 2 + 1 + 1 + 3},
		{"for i = 0i32 to 4i32 { f(); g = f(); }", 1 + 4*(1+3+4)},
		{"if (0i32) { }", 2},
		{"if (1i32) { }", 2},
		{"if (1i32) { print(1u8); }", 4},
		{"if (g == 0u8) { print(1u8); }", 1 + 3 + 2},
		{"if (1u8) { print(1u8); } else { }", 4},
		{"if (0u8) { } else { print(1u8); }", 4},
		{"if (2u8) { print(2u8); print(3u8); } else { print(1u8); }", 6},
		{"if (0u8) { print(1u8); } else { print(2u8); print(3u8); }", 6},
		{"if (1u8) { print(1u8); } else { print(2u8); }", 4},
	} {
		isExact(t, things+inMain(r.text), 2, 3, r.steps)
		hold(t, read(t, things+inMain(r.text)))
		hold(t, read(t, things+"i32 m() { "+r.text+" } "+inMain("m(); "+r.text)))
	}
}

// P11.1: steps of what a run may leave out; what is told doesn't hang on the numbers.
func TestMoreThanIsRun(t *testing.T) {
	for _, r := range []struct {
		text  string
		steps int
	}{
		{"if (0u8) { print(2u8); print(3u8); } else { print(1u8); }", 6},
		{"if (1u8) { print(2u8); } else { print(1u8); print(3u8); }", 6},
		{"if (0u8) { print(2u8); }", 4},
		{"if (1u8) { } else { print(1u8); }", 4},
		{"if (1u8) { if (1u8) { u8 x; } else { f(); } u8 y; } else { u8 x; u8 y; u8 z; }", 2 + 2 + 3 + 1},
		{"print(0u8 && 1u8);", 4},
		{"print(1u8 || 1u8);", 4},
		{"print(0u8 && g + 1u8 == 0u8 && g);", 1 + 1 + 1 + 1 + 5 + 1},
		{"print(0u8 ? g + 1u8 : g);", 1 + 1 + 1 + 3},
		{"print(1u8 ? g : g + 1u8);", 1 + 1 + 1 + 3},
		{"print(!g ? 0u8 ? g + 1u8 : g : g + g + g);", 1 + 1 + 2 + 5},
		{"print(g ? 0u8 ? g + 1u8 : g : ~g);", 1 + 1 + 1 + 1 + 1 + 3},
		{"return 1i32; print(2u8);", 4},
		{"for i = 0i32 to 3i32 { return 1i32; }", 1 + 3*3},
	} {
		if took := isSafe(t, things+inMain(r.text), 2, 3, r.steps); took >= r.steps {
			t.Errorf("%s: took %d steps", r.text, took)
		}
		hold(t, read(t, things+inMain(r.text)))
	}
}

// P11.1: the steps of each kind of expression.
func TestExpressions(t *testing.T) {
	for _, r := range []struct {
		text  string
		steps int
	}{
		{"5u8", 1},
		{"(u8)300i16", 2},
		{"(i32)(u8)#-1i8", 3},
		{"-5i8", 2},
		{"~~5u8", 3},
		{"!g", 2},
		{"g + 10u8", 3},
		{"g + 10u8 * g", 5},
		{"g << 7i32", 3},
		{"g < 7u8", 3},
		{"1u8 && g", 3},
		{"0u8 || g", 3},
		{"1i8 ? 5u8 + g : 6u8", 5},
		{"0i8 ? 5u8 : 6u8 + g", 5},
		{"0i8 ? ~g : ~~g ? g : g", 7},
		{"g + 1u8 ? g : g", 5},
		{"g ? 0u8 ? g + 1u8 : g : g + g + g", 7},
		{"a[a[a[2i8] % 3u8] % 3u8]", 8},
		{"v.x", 1},
		{"w", 1},
	} {
		isExact(t, things+inMain("print("+r.text+");"), 2, 3, 1+r.steps)
		isSafe(t, things+inMain("if ("+r.text+") { }"), 2, 3, 1+r.steps)
		isSafe(t, things+inMain("return (i32)("+r.text+");"), 2, 3, 2+r.steps)
		isSafe(t, things+inMain("i32 x = (i32)("+r.text+");"), 2, 3, 2+r.steps)
		isSafe(t, things+inMain("g = (u8)("+r.text+");"), 2, 3, 3+r.steps)
		isSafe(t, things+inMain("k(&g, (u8)("+r.text+"));"), 2, 3, 1+1+1+r.steps+3)
		isSafe(t, things+inMain("a[(u8)("+r.text+") % 3u8] = 1u8;"), 2, 3, 1+1+3+r.steps+1)
		isSafe(t, things+inMain("k(&a[(u8)("+r.text+") % 3u8], 1u8);"), 2, 3, 1+1+3+r.steps+1+3)
		isSafe(t, things+inMain("a[(u8)("+r.text+") % 3u8] = f();"), 2, 3, 1+1+3+r.steps+2)
	}
}

// P11.1: each function has its steps, in order; those of a function that is called are its Block's.
func TestFunctions(t *testing.T) {
	isExact(t, inMain(""), 0)
	isExact(t, "u8 g; struct s { u8 x; } u8 f() { } u8 h = 1u8; i32 main() { }", 0, 0)
	isSafe(t, "u8 f() { u8 x; } i16 h(i16 x, i16 *y) { *y = x; return *y; } u32 k() { return 1u32; } i32 main() { i32 x; }", 1, 5, 2, 1)
	isExact(t, "u8 f() { u8 x; } u8 h() { f(); f(); } u8 k() { h(); f(); h(); } i32 main() { k(); h(); f(); }", 1, 4, 1+4+2+1+4, 1+12+5+2)
	isExact(t, "u8 f(u8 x) { return x + 1u8; } i32 main() { u8 y; for i = 0i32 to 3i32 { y = f(y); y = f(y + 1u8); } print(y); }", 4, 1+1+3*(1+1+2+4+1+4+4)+2)
	isExact(t, "u8 f(u8 *x, i8 *y, u8 z) { *x = *x + z; *y = (i8)*x; return *x; } i32 main() { u8 a[2i32]; i8 b; a[0i32] = f(&a[1i32], &b, a[0i32]); }", 5+4+2, 2+1+2+2+1+2+11)
	isExact(t, "u8 f(u8 *x) { *x = 3u8; } u8 h(u8 *x) { f(&*x); } i32 main() { u8 y; h(&y); print(y); }", 3, 1+1+3, 1+1+1+5+2)
}

// unsafe expressions of i32 that break one rule alone, and for each one that breaks none.
var pairs = []struct{ broken, whole string }{
	{"(x + 1i32)", "(x % 9i32 + 1i32)"},
	{"(x - 1i32)", "(x % 9i32 - 1i32)"},
	{"(x * 2i32)", "(x % 9i32 * 2i32)"},
	{"(1i32 / x)", "(1i32 / (x % 9i32 + 9i32))"},
	{"(x / #-1i32)", "(x % 9i32 / #-1i32)"},
	{"(1i32 % x)", "(1i32 % (x % 9i32 + 9i32))"},
	{"(x % #-1i32)", "(x % 9i32 % #-1i32)"},
	{"(x << 1u8)", "(x % 9i32 << 1u8)"},
	{"(1i32 << x)", "(1i32 << ((u32)x & 15u32))"},
	{"(x >> 32u8)", "(x >> 31u8)"},
	{"(x >> x)", "(x >> (u8)1i32)"},
	{"(-x)", "(-(x % 9i32))"},
	{"arr[x]", "arr[x % 4i32 + 3i32]"},
	{"arr[8u8]", "arr[7u8]"},
	{"arr[#-1i8]", "arr[0i8]"},
	{"loc[4u8]", "loc[3u8]"},
}

// P11.1: each rule broken alone, at each place where an expression can stand; what breaks none is safe there.
func TestUnsafe(t *testing.T) {
	const ahead = "struct s { i32 x; u8 y; } i32 x; i32 arr[8i32]; i32 zero; u8 b[2i32]; struct s v; i32 f(i32 x, i32 y) { return x; } i32 k(u8 *p, i32 x) { return x; } "
	for _, place := range []string{
		"i32 y = E;", "zero = E;", "arr[1i32] = E;", "v.x = E;", "*p = E;",
		"arr[(u32)E & 7u32] = 1i32;", "arr[(u32)E & 7u32] = f(1i32, 2i32);", "k(&b[(u32)E & 1u32], 1i32);",
		"if (E) { print(1u8); }", "if (E) { } else { }", "if (1u8) { print(E); }", "if (1u8) { } else { print(E); }",
		"for i = 0i32 to 3i32 { print(E); }", "for i = 0i32 to 1i32 { for j = 0i32 to 1i32 { x = E; } }",
		"print(E);", "return E;", "return 1i32; print(E);", "if (0i32) { print(E); }",
		"f(E, 1i32);", "f(1i32, E);", "zero = f(1i32, E);", "k(&b[1u8], E);", "x = k(&b[1u8], E);",
		"print(~E);", "print(!E);", "print((u8)E);",
		"print(E & 1i32);", "print(1i32 & E);", "print(E == 1i32);", "print(1i32 == E);",
		"print(E && 1i32);", "print(1u8 && E);", "print(0u8 && E);", "print(E || 1i32);", "print(1u8 || E);",
		"print(E ? 1u8 : 2u8);", "print(1u8 ? E : 2i32);", "print(1u8 ? 1i32 : E);", "print(arr[(u32)E & 7u32]);",
	} {
		for _, pair := range pairs {
			for _, form := range []string{
				"i32 m(i32 *p) { i32 loc[4i32]; u8 y2; " + place + " } i32 main() { }",
				"i32 m(i32 *p) { i32 loc[4i32]; u8 y2; " + place + " } i32 main() { m(&x); }",
			} {
				n := read(t, ahead+strings.ReplaceAll(form, "E", pair.broken))
				answers(t, n, nil, number(t, n, readExpression(t, pair.broken)), api.ErrUnsafe)
				hold(t, n)
				s := ahead + strings.ReplaceAll(form, "E", pair.whole)
				if list, at, e := hold(t, read(t, s)); e != api.OK {
					t.Fatalf("%s: %d at %d", s, e, at)
				} else {
					halts(t, s, read(t, s), list[len(list)-1])
				}
			}
		}
	}
}

// P11.1: an Index breaks the rule wherever it stands, read, written or led to.
func TestIndexPlaces(t *testing.T) {
	for _, place := range []string{
		"A[E] = 1u8;", "A[E] = f();", "k(&A[E], 1u8);", "k(&A[0i32], A[E]);", "A[0i32] = k(&A[E], 1u8);",
		"u8 x = A[E];", "print(A[E]);", "print(~A[E]);", "print(A[A[E] % 3u8]);", "A[A[E] % 3u8] = 1u8;",
	} {
		for _, array := range []string{"a", "l"} {
			s := things + inMain("u8 l[3i32]; i8 c; "+strings.ReplaceAll(place, "A", array))
			for _, e := range []string{"3i32", "#-1i8", "g", "c", "g % 4u8", "c % 3i8", "4294967295u32"} {
				n := read(t, strings.ReplaceAll(s, "E", e))
				answers(t, n, nil, number(t, n, readExpression(t, array+"["+e+"]")), api.ErrUnsafe)
			}
			for _, e := range []string{"0i32", "2i32", "2u32", "g % 3u8", "(u8)c & 1u8", "g & 2u8", "c % 2i8 + 1i8", "!c"} {
				if _, at, errno := Check(read(t, strings.ReplaceAll(s, "E", e))); errno != api.OK {
					t.Errorf("%s with %s: %d at %d", s, e, errno, at)
				}
			}
		}
	}
}

// P11.1: arrays of each length, asked at each number and at a loop's, just within and just beyond.
func TestArrays(t *testing.T) {
	for length := 1; length <= api.MaxArray; length++ {
		ask := func(holds bool, e string) {
			t.Helper()
			s := fmt.Sprintf("u8 a[%di32]; i32 main() { u8 b[%di32]; STAT }", length, length)
			for _, stat := range []string{"print(a[E]);", "print(b[E]);", "b[E] = 1u8;"} {
				n := read(t, strings.ReplaceAll(strings.Replace(s, "STAT", stat, 1), "E", e))
				want := api.ErrUnsafe
				if holds {
					want = api.OK
				}
				if _, _, e := hold(t, n); e != want {
					t.Errorf("%d cells: %s: %d", length, stat, e)
				}
			}
		}
		for ty := range byte(6) {
			name := strings.Fields("i8 u8 i16 u16 i32 u32")[ty]
			for v := range api.MaxArray + 3 {
				ask(v < length, fmt.Sprint(v, name))
			}
			if ints.Signed(ty) {
				ask(false, "#-1"+name)
				ask(false, fmt.Sprint("#", ints.Span(ty).Low, name))
			}
			ask(false, fmt.Sprint(ints.Span(ty).High, name))
		}
		for first := range 4 {
			for behind := first + 1; behind <= first+api.MaxLoop; behind++ {
				s := fmt.Sprintf("i32 main() { u8 b[%di32]; for i = %di32 to %di32 { b[i] = b[i] + 1u8; } }", length, first, behind)
				if behind <= length {
					isExact(t, s, 2+(behind-first)*8)
				} else {
					isBroken(t, s, 7, api.ErrUnsafe)
				}
			}
		}
	}
}

// P11.1: every operation of every type with variables and the numbers at its edges: safe, where layer 10 says so.
func TestOperations(t *testing.T) {
	type outcome struct {
		one    bool
		op, ty byte
		never  bool
	}
	seen := map[outcome]bool{}
	say := func(o outcome, n api.Node) {
		t.Helper()
		seen[o] = true
		if o.never {
			list, at, e := Costs(n)
			s, _ := show.Text(n)
			if e != api.OK {
				t.Fatalf("%s: %d at %d", s, e, at)
			}
			halts(t, s, n, list[0])
			return
		}
		answers(t, n, nil, 5, api.ErrUnsafe)
	}
	for ty := range byte(6) {
		full := span.Full(ty)
		list := []api.Node{{Kind: api.Var, Name: "x"}}
		for _, v := range []int64{-2, -1, 0, 1, 2, 7, 8, 15, 16, 31, 32, full.Low, full.Low + 1, full.High - 1, full.High} {
			if span.Has(full, v) {
				list = append(list, lit(ty, v))
			}
		}
		spanOf := func(n api.Node) api.Span {
			if n.Kind == api.Var {
				return full
			}
			return api.Span{Low: n.N, High: n.N}
		}
		for _, a := range list {
			for op := api.Neg; op <= api.Bang; op++ {
				_, never := span.Un(op, ty, spanOf(a))
				say(outcome{true, op, ty, never}, printing(ty, unary(op, a)))
			}
			for op := api.Add; op <= api.Ne; op++ {
				for _, b := range list {
					_, never := span.Do(op, ty, spanOf(a), spanOf(b))
					say(outcome{false, op, ty, never}, printing(ty, binary(op, a, b)))
				}
			}
		}
	}
	for ty := range byte(6) {
		signed := ints.Signed(ty)
		for op := api.Neg; op <= api.Bang; op++ {
			if seen[outcome{true, op, ty, false}] != (signed && op == api.Neg) {
				t.Errorf("the operation %d of one number of the type %d", op, ty)
			}
		}
		for op := api.Add; op <= api.Ne; op++ {
			can := signed && op <= api.Rem || op == api.Div || op == api.Rem || op == api.Shl || op == api.Shr
			if seen[outcome{false, op, ty, false}] != can || !seen[outcome{false, op, ty, true}] {
				t.Errorf("the operation %d of the type %d", op, ty)
			}
		}
	}
}

// printing: a program with a variable x of a type, that prints an expression; that has the number 5.
func printing(ty byte, e api.Node) api.Node {
	b := api.Node{Kind: api.Block, Kids: []api.Node{{Kind: api.Let, Name: "x", Type: whole(ty)}, {Kind: api.Print, Kids: []api.Node{e}}}}
	return api.Node{Kind: api.Prog, Kids: []api.Node{{Kind: api.Func, Name: "main", Type: whole(api.I32), Kids: []api.Node{b}}}}
}

// P11.1: the counts of shifts have a type of their own, and the type of what is shifted says what goes.
func TestShifts(t *testing.T) {
	names := strings.Fields("i8 u8 i16 u16 i32 u32")
	for ty := range byte(6) {
		for count := range byte(6) {
			for _, op := range []string{"<<", ">>"} {
				width := ints.Width(ty)
				s := fmt.Sprintf("i32 main() { print(0%s %s %%d%s); }", names[ty], op, names[count])
				isExact(t, fmt.Sprintf(s, 0), 4)
				isExact(t, fmt.Sprintf(s, width-1), 4)
				isBroken(t, fmt.Sprintf(s, width), 4, api.ErrUnsafe)
				if ints.Signed(count) {
					isBroken(t, strings.Replace(fmt.Sprintf(s, -1), "-1", "#-1", 1), 4, api.ErrUnsafe)
				}
			}
		}
	}
}

// The numbers that a variable of each kind may hold, and of what operations make of them.
func TestSpans(t *testing.T) {
	const ahead = "struct s { u8 m; i16 n; } u8 g = 5u8; i8 h = 1i8; u16 arr[3i32]; struct s v; u8 f(u8 p, i16 *q, i32 i2) { BODY } i32 main() { }"
	for _, r := range []struct {
		text      string
		ty        byte
		low, high int64
	}{
		{"7u8", api.U8, 7, 7},
		{"#-128i8", api.I8, -128, -128},
		{"4294967295u32", api.U32, 4294967295, 4294967295},
		{"g", api.U8, 0, 255},
		{"h", api.I8, -128, 127},
		{"arr[1i32]", api.U16, 0, 65535},
		{"v.m", api.U8, 0, 255},
		{"v.n", api.I16, -32768, 32767},
		{"p", api.U8, 0, 255},
		{"*q", api.I16, -32768, 32767},
		{"i2", api.I32, -2147483648, 2147483647},
		{"l", api.U32, 0, 4294967295},
		{"i", api.I32, 3, 8},
		{"j", api.I32, 0, 0},
		{"k", api.I32, 2147483646, 2147483646},
		{"i + j", api.I32, 3, 8},
		{"i - i", api.I32, -5, 5},
		{"i * #-2i32", api.I32, -16, -6},
		{"-i", api.I32, -8, -3},
		{"~i", api.I32, -9, -4},
		{"~(g & 7u8)", api.U8, 248, 255},
		{"!i", api.I32, 0, 0},
		{"!j", api.I32, 1, 1},
		{"!g", api.I32, 0, 1},
		{"!!h", api.I32, 0, 1},
		{"(u8)i", api.U8, 3, 8},
		{"(i8)g", api.I8, -128, 127},
		{"(i8)(g & 127u8)", api.I8, 0, 127},
		{"(u8)h", api.U8, 0, 255},
		{"(u8)(i - i)", api.U8, 0, 255},
		{"(u8)300i16", api.U8, 0, 255},
		{"g % 4u8", api.U8, 0, 3},
		{"h % 4i8", api.I8, -3, 3},
		{"g & 12u8", api.U8, 0, 12},
		{"g | 1u8", api.U8, 1, 255},
		{"(g & 9u8) | 1u8", api.U8, 1, 15},
		{"(g & 9u8) ^ 1u8", api.U8, 0, 15},
		{"i << 2u8", api.I32, 12, 32},
		{"i >> 1u8", api.I32, 1, 4},
		{"1u8 << (i - 1i32)", api.U8, 4, 128},
		{"3u8 << (i - 1i32)", api.U8, 0, 255},
		{"1i32 << i", api.I32, 8, 256},
		{"g + 1u8", api.U8, 0, 255},
		{"i < 9i32", api.I32, 1, 1},
		{"i < 3i32", api.I32, 0, 0},
		{"i < 4i32", api.I32, 0, 1},
		{"(g & 3u8) == 4u8", api.I32, 0, 0},
		{"g != g", api.I32, 0, 1},
		{"g ? 3u8 : 9u8", api.U8, 3, 9},
		{"g ? 9u8 : 3u8", api.U8, 3, 9},
		{"1u8 ? 3u8 : 9u8", api.U8, 3, 9},
		{"0u8 ? 3u8 : 9u8", api.U8, 3, 9},
		{"g ? i : #-1i32", api.I32, -1, 8},
		{"#-100i8 ? 3u8 : 4u8", api.U8, 3, 4},
	} {
		for _, stat := range []string{"print(E);", "if (g) { l = (u32)(E); }"} {
			probe(t, strings.Replace(ahead, "BODY", "u32 l; for i = 3i32 to 9i32 { for j = 0i32 to 1i32 { for k = 2147483646i32 to 2147483647i32 { "+stat+" } } }", 1), r.text, r.ty, r.low, r.high)
		}
	}
}

// probe asks just which span an expression has: a division by whether it is at least, or at most, some number is safe where that holds for all of it.
func probe(t *testing.T, s, e string, ty byte, low, high int64) {
	t.Helper()
	full := span.Full(ty)
	ask := func(sign string, v int64, want api.Errno) {
		t.Helper()
		if !span.Has(full, v) {
			return
		}
		mark := ""
		if v < 0 {
			mark = "#"
		}
		asked := fmt.Sprintf("1i32 / ((%s) %s %s%d%s)", e, sign, mark, v, strings.Fields("i8 u8 i16 u16 i32 u32")[ty])
		n := read(t, strings.ReplaceAll(s, "E", asked))
		if _, at, got := Check(n); got != want || want != api.OK && at != number(t, n, readExpression(t, asked)) {
			t.Errorf("%s: %d at %d; want %d", asked, got, at, want)
		}
	}
	ask(">=", low, api.OK)
	ask(">=", low+1, api.ErrUnsafe)
	ask("<=", high, api.OK)
	ask("<=", high-1, api.ErrUnsafe)
	ask("<", high, api.ErrUnsafe)
	ask(">", low, api.ErrUnsafe)
}

// A name stands for the For that is innermost, or for a variable that hides it; behind a For what was ahead of it holds again.
func TestHiding(t *testing.T) {
	isSafe(t, "i32 main() { u8 a[2i32]; for i = 0i32 to 9i32 { for i = 0i32 to 2i32 { a[i] = 1u8; } } }", 1+1+9*(1+1+2*(1+4)))
	isBroken(t, "i32 main() { u8 a[2i32]; for i = 0i32 to 2i32 { for i = 0i32 to 9i32 { a[i] = 1u8; } } }", 9, api.ErrUnsafe)
	isBroken(t, "i32 main() { u8 a[2i32]; for i = 0i32 to 9i32 { for i = 0i32 to 2i32 { } a[i] = 1u8; } }", 9, api.ErrUnsafe)
	isSafe(t, "i32 main() { u8 a[2i32]; for i = 0i32 to 2i32 { for i = 0i32 to 9i32 { } a[i] = 1u8; } }", 1+1+2*(1+10+4))
	isBroken(t, "i32 main() { u8 a[2i32]; for i = 0i32 to 2i32 { u8 i; a[i] = 1u8; } }", 8, api.ErrUnsafe)
	isBroken(t, "u8 i; i32 main() { u8 a[2i32]; for i = 0i32 to 2i32 { a[i] = 1u8; } a[i] = 1u8; }", 12, api.ErrUnsafe)
	isBroken(t, "u8 i; u8 f() { for i = 0i32 to 2i32 { } } i32 main() { u8 a[2i32]; a[i] = 1u8; }", 10, api.ErrUnsafe)
	isBroken(t, "u8 a[9i32]; i32 main() { u8 a[2i32]; print(a[2i32]); }", 6, api.ErrUnsafe)
	isSafe(t, "u8 a[2i32]; i32 main() { u8 a[9i32]; print(a[2i32]); }", 1+3)
	isBroken(t, "u8 a[2i32]; i32 main() { if (1u8) { u8 a[9i32]; } print(a[2i32]); }", 9, api.ErrUnsafe)
	isSafe(t, "u8 f() { for i = 0i32 to 9i32 { } for j = 0i32 to 2i32 { } } i32 main() { u8 a[2i32]; for i = 0i32 to 2i32 { print(a[i]); } for j = 5i32 to 7i32 { print(a[j - 5i32]); } }", 13, 1+1+2*4+1+2*6)
}

// P11.1: LAnd and LOr at each case of their kids' spans; each of their kids is looked at.
func TestTruths(t *testing.T) {
	const ahead = "u8 g; i8 c; i32 main() { print(E); }"
	kids := []struct {
		text string
		s    api.Span
	}{
		{"0u8", api.Span{Low: 0, High: 0}}, {"(g & 0u8)", api.Span{Low: 0, High: 0}}, {"1u8", api.Span{Low: 1, High: 1}}, {"7u8", api.Span{Low: 7, High: 7}}, {"#-3i8", api.Span{Low: -3, High: -3}},
		{"g", api.Span{Low: 0, High: 255}}, {"c", api.Span{Low: -128, High: 127}}, {"(g & 1u8)", api.Span{Low: 0, High: 1}}, {"(g | 1u8)", api.Span{Low: 1, High: 255}},
		{"(c % 3i8 - 3i8)", api.Span{Low: -5, High: -1}}, {"(c % 3i8 - 2i8)", api.Span{Low: -4, High: 0}}, {"(c % 3i8 + 2i8)", api.Span{Low: 0, High: 4}},
	}
	zero := api.Span{}
	for _, a := range kids {
		for _, b := range kids {
			and, or := api.Span{Low: 0, High: 1}, api.Span{Low: 0, High: 1}
			hasA, hasB := a.s.Low <= 0 && 0 <= a.s.High, b.s.Low <= 0 && 0 <= b.s.High
			if !hasA && !hasB {
				and = api.Span{Low: 1, High: 1}
			}
			if a.s == zero || b.s == zero {
				and = zero
			}
			if !hasA || !hasB {
				or = api.Span{Low: 1, High: 1}
			}
			if a.s == zero && b.s == zero {
				or = zero
			}
			probe(t, ahead, a.text+" && "+b.text, api.I32, and.Low, and.High)
			probe(t, ahead, a.text+" || "+b.text, api.I32, or.Low, or.High)
		}
	}
	for _, sign := range []string{"&&", "||"} {
		isBroken(t, "u8 g; i32 main() { print(0u8 "+sign+" g / g); }", 7, api.ErrUnsafe)
		isBroken(t, "u8 g; i32 main() { print(1u8 "+sign+" g / g); }", 7, api.ErrUnsafe)
		isBroken(t, "u8 g; i32 main() { print(g / g "+sign+" 0u8); }", 6, api.ErrUnsafe)
	}
}

// P11.1: of two rules that are broken the one that is met first is told: kids ahead of the node that they stand in, in their order.
func TestOrder(t *testing.T) {
	const ahead = "i32 x; u8 a[4i32]; i32 main() { "
	for _, r := range []struct {
		text string
		at   int
		e    api.Errno
	}{
		// The root, x, a, main and its Block are 0 to 4; the first statement is 5.
		{"print(x + 1i32); print(x / x);", 6, api.ErrUnsafe},
		{"print(x); print(x / x); print(x + 1i32);", 8, api.ErrUnsafe},
		{"print((x / x) + (x % x));", 7, api.ErrUnsafe},
		{"print(1i32 / (x % x));", 8, api.ErrUnsafe},
		{"print((x + 1i32) / (x - x));", 7, api.ErrUnsafe},
		{"print(x / (x - x));", 8, api.ErrUnsafe},
		{"print(-(-x));", 7, api.ErrUnsafe},
		{"print(-(-(x % 9i32)) / (x & 1i32));", 6, api.ErrUnsafe},
		{"print(a[a[x]]);", 7, api.ErrUnsafe},
		{"print(a[a[1u8]]);", 6, api.ErrUnsafe},
		{"print(a[x / x]);", 7, api.ErrUnsafe},
		{"a[x] = (u8)(x / x);", 6, api.ErrUnsafe},
		{"a[1u8] = (u8)(x / x);", 9, api.ErrUnsafe},
		{"a[x / x] = a[x];", 7, api.ErrUnsafe},
		{"print(x / x ? a[x] : a[9u8]);", 7, api.ErrUnsafe},
		{"print(x ? a[x] : a[9u8]);", 8, api.ErrUnsafe},
		{"print(x ? a[0u8] : a[9u8]);", 10, api.ErrUnsafe},
		{"if (x / x) { print(a[x]); } else { print(a[9u8]); }", 6, api.ErrUnsafe},
		{"if (x) { print(a[x]); } else { print(a[9u8]); }", 9, api.ErrUnsafe},
		{"if (x) { } else { print(a[9u8]); } print(a[x]);", 10, api.ErrUnsafe},
		{"for i = 0i32 to 5i32 { print(a[i]); } print(a[x]);", 8, api.ErrUnsafe},
		{"for i = 0i32 to 5i32 { a[i] = a[x]; }", 8, api.ErrUnsafe},
		{"i32 y = x / x; i32 z = -x;", 6, api.ErrUnsafe},
		{"return x / x; print(-x);", 6, api.ErrUnsafe},
		{spend(20000) + "print(x / x); u8 z;", -1, api.ErrUnsafe},
		{spend(20000) + "u8 z; print(x / x);", 4, api.ErrLimit},
		{spend(10000) + "if (x) { " + spend(15000) + " } print(x / x);", 4, api.ErrLimit},
		{spend(10000) + "if (x / x) { " + spend(15000) + " }", -1, api.ErrUnsafe},
		{"if (x / x) { " + spend(20000) + " u8 z; }", 6, api.ErrUnsafe},
		{"if (x) { " + spend(20000) + " u8 z; } print(x / x);", 7, api.ErrLimit},
		{"if (x) { " + spend(20000) + " u8 z; } else { print(x / x); }", 7, api.ErrLimit},
		{"if (x) { " + spend(20000) + " } else { print(x / x); }", -1, api.ErrUnsafe},
		{"if (x) { print(x / x); } else { " + spend(20000) + " u8 z; }", 9, api.ErrUnsafe},
		{"for i = 0i32 to 2i32 { " + spend(10000) + " print(x / x); }", -1, api.ErrUnsafe},
		{"for i = 0i32 to 2i32 { " + spend(10000) + " } print(x / x);", 5, api.ErrLimit},
	} {
		n := read(t, ahead+r.text+" }")
		if r.at < 0 {
			r.at = number(t, n, readExpression(t, "x / x"))
		}
		answers(t, n, nil, r.at, r.e)
		hold(t, n)
	}
	isBroken(t, "u8 x; u8 f() { print(x / x); } i32 main() { "+spend(20000)+" u8 z; }", 5, api.ErrUnsafe)
	isBroken(t, "u8 x; u8 f() { "+spend(20000)+" u8 z; } i32 main() { print(x / x); }", 3, api.ErrLimit)
	isBroken(t, "u8 x; u8 f() { print(x / x); } u8 h() { print(x % x); } i32 main() { }", 5, api.ErrUnsafe)
	isBroken(t, "u8 x; u8 a[2i32]; u8 f(u8 *p, u8 q) { } i32 main() { f(&a[x], x / x); }", 11, api.ErrUnsafe)
	isBroken(t, "u8 x; u8 a[2i32]; u8 f(u8 *p, u8 q) { } i32 main() { a[x] = f(&a[2u8], x / x); }", 10, api.ErrUnsafe)
	isBroken(t, "u8 x; u8 a[2i32]; u8 f(u8 *p, u8 q) { } i32 main() { a[1u8] = f(&a[x / x], x / x); }", 14, api.ErrUnsafe)
	isBroken(t, "u8 x; u8 a[2i32]; u8 f(u8 *p, u8 q) { } i32 main() { a[1u8] = f(&a[1u8], x / x); }", 15, api.ErrUnsafe)
}

func lets(count int) string {
	var s strings.Builder
	for i := range count {
		fmt.Fprintf(&s, "u8 x%d; ", i)
	}
	return s.String()
}

// spend: statements that have just so many steps, in few nodes; no name but i, and x with a number.
func spend(steps int) string {
	if steps < 34 {
		return lets(steps)
	}
	within := (steps-1)/16 - 1
	rest := steps - 1 - 16*(1+within)
	return lets(rest) + "for i = 0i32 to 16i32 { " + spend(within) + "} "
}

// P11.1: statements and Blocks with just MaxSteps steps, and with one more.
func TestMaxSteps(t *testing.T) {
	for _, steps := range []int{0, 1, 33, 34, 1000, 19999} {
		isExact(t, inMain(spend(steps)), steps)
	}
	// A Block: behind its last statement it has too many; or as soon as it has.
	isExact(t, inMain(spend(20000)), 20000)
	isBroken(t, inMain(spend(20000)+"u8 z;"), 2, api.ErrLimit)
	isBroken(t, inMain("u8 z;"+spend(20000)), 2, api.ErrLimit)
	isBroken(t, inMain(spend(12000)+spend2(8001)), 2, api.ErrLimit)
	isExact(t, inMain(spend(12000)+spend2(8000)), 20000)
	isBroken(t, inMain(spend(12000)+spend2(8001)+"for j = 0i32 to 16i32 { "+spend(1249)+" }"), 2, api.ErrLimit)
	// A For: 7 times 2857 are 19999, 16 times 1250 are 20000, 2 times 10000 too.
	isExact(t, inMain("for i = 0i32 to 7i32 { "+spend(2856)+" }"), 20000)
	isBroken(t, inMain("for i = 0i32 to 7i32 { "+spend(2857)+" }"), 3, api.ErrLimit)
	isBroken(t, inMain("for i = 0i32 to 16i32 { "+spend(1249)+" }"), 3, api.ErrLimit)
	isExact(t, inMain("for i = 0i32 to 16i32 { "+spend(1248)+" }"), 1+16*1249)
	isBroken(t, inMain("u8 x; for i = 9i32 to 11i32 { "+spend(9999)+" }"), 4, api.ErrLimit)
	isExact(t, inMain("for i = 5i32 to 6i32 { "+spend(19998)+" }"), 20000)
	isBroken(t, inMain("for i = 5i32 to 6i32 { "+spend(19999)+" }"), 3, api.ErrLimit)
	isBroken(t, inMain("for i = 5i32 to 6i32 { "+spend(20000)+" }"), 3, api.ErrLimit)
	isBroken(t, inMain("for i = 5i32 to 6i32 { "+spend(20000)+" u8 z; }"), 4, api.ErrLimit)
	// An If, with either of its Blocks.
	isExact(t, inMain("if (1u8) { "+spend(19998)+" }"), 20000)
	isBroken(t, inMain("if (1u8) { "+spend(19999)+" }"), 3, api.ErrLimit)
	isExact(t, inMain("if (1u8) { "+spend(19998)+" } else { }"), 20000)
	isExact(t, inMain("if (0u8) { } else { "+spend(19998)+" }"), 20000)
	isExact(t, inMain("if (0u8) { "+spend(19998)+" } else { "+spend(19998)+" }"), 20000)
	isBroken(t, inMain("if (1u8) { "+spend(19999)+" } else { }"), 3, api.ErrLimit)
	isBroken(t, inMain("if (1u8) { } else { "+spend(19999)+" }"), 3, api.ErrLimit)
	isBroken(t, inMain("if (1u8 + 1u8) { } else { "+spend(19997)+" }"), 3, api.ErrLimit)
	isBroken(t, inMain("if (1u8) { "+spend(20000)+" } else { }"), 3, api.ErrLimit)
	isBroken(t, inMain("if (1u8) { "+spend(20000)+" u8 z; } else { }"), 5, api.ErrLimit)
	isBroken(t, inMain("if (1u8) { } else { "+spend(20000)+" u8 z; }"), 6, api.ErrLimit)
	isBroken(t, inMain("if (1u8) { "+spend(19998)+" } u8 z;"), 2, api.ErrLimit)
}

// spend2: as spend, with names that may stand behind it.
func spend2(steps int) string { return strings.ReplaceAll(spend(steps), "u8 x", "u8 y") }

// P11.1: a Call with just MaxSteps steps, and with one more; of each function, called or not.
func TestMaxStepsOfCalls(t *testing.T) {
	call := func(head string, steps int, stats string) string {
		return head + " { " + spend(steps) + "} i32 main() { " + stats + " }"
	}
	isSafe(t, call("u8 f()", 20000, ""), 20000, 0)
	isBroken(t, call("u8 f()", 20000, "f();"), number(t, read(t, call("u8 f()", 20000, "f();")), api.Node{Kind: api.Call, Name: "f"}), api.ErrLimit)
	isExact(t, call("u8 f()", 19999, "f();"), 19999, 20000)
	block := func(s string) int {
		n := read(t, s)
		return tree.Size(n) - tree.Size(n.Kids[len(n.Kids)-1].Kids[0])
	}
	for _, r := range []struct {
		head, stats string
		least       int // steps of the statement but for the function's
	}{
		{"u8 f()", "f();", 1},
		{"u8 f(u8 a)", "f(1u8);", 2},
		{"u8 f(u8 a, u8 b)", "f(1u8, 1u8 + 1u8);", 5},
		{"u8 f(u8 *a)", "f(&g);", 2},
		{"u8 f(u8 *a)", "f(&h[1u8]);", 3},
		{"u8 f()", "g = f();", 2},
		{"u8 f()", "h[1u8] = f();", 3},
		{"u8 f(u8 *a, u8 b)", "h[1u8] = f(&h[0u8], g);", 6},
	} {
		head := "u8 g; u8 h[2i32]; " + r.head
		within := 20000 - r.least
		isExact(t, call(head, within, r.stats), within, 20000)
		s := call(head, within+1, r.stats)
		isBroken(t, s, block(s)+1, api.ErrLimit)
		s = call(head, within, "u8 z; "+r.stats)
		isBroken(t, s, block(s), api.ErrLimit)
		s = call(head, within, r.stats+" u8 z; print(1u8 / 0u8);")
		isBroken(t, s, block(s), api.ErrLimit)
		s = call(head, within, r.stats+" print(1u8 / 0u8);")
		isBroken(t, s, block(s)+tree.Size(read(t, s).Kids[3].Kids[0].Kids[0])+2, api.ErrUnsafe)
	}
	isBroken(t, "u8 f() { "+spend(20000)+" u8 z; } i32 main() { }", 2, api.ErrLimit)
}

// Counts that grow at each step are told at the first that is too great, and none grows beyond what an int holds.
func TestGrowing(t *testing.T) {
	const levels = 18
	s := strings.Repeat("for i = 0i32 to 16i32 { ", levels) + strings.Repeat("} ", levels)
	// 1 + 16 * 1 = 17, 289, 4641, and 74273 of the fourth from within.
	n := read(t, inMain(s))
	if tree.Depth(n) != 3+2*levels {
		t.Fatal(tree.Depth(n))
	}
	answers(t, n, nil, 3+2*(levels-4), api.ErrLimit)
	hold(t, n)
	isExact(t, inMain("for i = 0i32 to 16i32 { for i = 0i32 to 16i32 { for i = 0i32 to 16i32 { } } }"), 4641)
	// Each function calls the one ahead twice: 2, 6, 14, .. 2^k - 2.
	text := "u8 f1() { u8 x; u8 y; } "
	want := []int{2}
	for k := 2; k <= 13; k++ {
		text += fmt.Sprintf("u8 f%d() { f%d(); f%d(); } ", k, k-1, k-1)
		want = append(want, 1<<(k+1)-2)
	}
	isExact(t, text+"i32 main() { f13(); }", append(slices.Clone(want), 16383)...)
	// 2^15 - 2 are too many: the second Call is below the limit, the Block isn't; what is behind it isn't asked.
	behind := ""
	for k := 14; k <= 90; k++ {
		behind += fmt.Sprintf("u8 f%d() { f%d(); f%d(); } ", k, k-1, k-1)
	}
	isBroken(t, text+behind+"i32 main() { f90(); }", 1+4+12*4+1, api.ErrLimit)
}

// P11.1: what stands in a For without a round isn't looked at, and takes no steps; it must be right all the same.
func TestNoRound(t *testing.T) {
	const ahead = "u8 x; u8 a[2i32]; u8 f(u8 p) { " // f's Block is 5
	for _, within := range []string{
		"", "print(x);", "print(x / x);", "print(a[x]);", "a[2u8] = 1u8;", "print(a[i]);", "print(-(-128i32));", "print(1u8 << x);",
		spend(20000), spend(20000) + " u8 z;", "for j = 0i32 to 16i32 { " + spend(20000) + " }",
		"if (x / x) { print(a[x]); } else { print(x % x); }", "if (x) { " + spend(20000) + "u8 z; }", "return a[x];", "x = a[x] / x;", "u8 y = x / x;",
		"for j = 0i32 to 5i32 { print(a[j]); }", "for i = 0i32 to 5i32 { print(a[i]); }", "for i = 0i32 to 0i32 { print(a[i]); }", "a[x] = e(&a[x], x / x);",
	} {
		for _, edge := range []int{0, 1, 16, 2147483647} {
			none := fmt.Sprintf("for i = %di32 to %di32 { %s }", edge, edge, within)
			e := "u8 e(u8 *p, u8 q) { " + spend(19999) + "} "
			isExact(t, e+ahead+none+" } i32 main() { f(1u8); }", 19999, 1, 3)
			isExact(t, e+ahead+none+" print(x); "+none+" } i32 main() { f(1u8); }", 19999, 4, 6)
			isExact(t, e+ahead+"for k = 0i32 to 3i32 { "+none+" } } i32 main() { }", 19999, 1+3*2, 0)
			hold(t, read(t, e+ahead+none+" } i32 main() { }"))
			// The numbers of the nodes behind it are told as they are.
			n := read(t, e+ahead+none+" print(x / x == 77u8); } i32 main() { }")
			answers(t, n, nil, number(t, n, readExpression(t, "x / x == 77u8"))+1, api.ErrUnsafe)
		}
	}
	isBroken(t, inMain("for i = 3i32 to 3i32 { print(y); }"), 6, api.ErrName)
	isBroken(t, inMain("for i = 3i32 to 3i32 { for i = 1i32 to 18i32 { } }"), 5, api.ErrArg)
	isBroken(t, inMain("for i = 3i32 to 4i32 { print(1u8 / 0u8); }"), 6, api.ErrUnsafe)
	isBroken(t, inMain("for i = 3i32 to 3i32 { } print(1u8 / 0u8);"), 6, api.ErrUnsafe)
}

// P11.1: where a program isn't right, what types says goes ahead of all that is broken here.
func TestErrors(t *testing.T) {
	deep := lit(api.U8, 1)
	for range api.MaxDepth {
		deep = unary(api.Not, deep)
	}
	ring := make([]api.Node, 1)
	ring[0] = api.Node{Kind: api.Prog, Kids: ring}
	long := read(t, inMain("for j = 0i32 to 2i32 { "+spend(10000)+" } main();"))
	many := printing(api.U8, lit(api.U8, 1))
	many.Kids = append(slices.Repeat([]api.Node{{Kind: api.Block}}, api.MaxNodes), many.Kids...)
	for _, r := range []struct {
		what string
		n    api.Node
		at   int
		e    api.Errno
	}{
		{"nothing", api.Node{}, 0, api.ErrForm},
		{"no main", read(t, "i32 f() { }"), 0, api.ErrForm},
		{"no function", read(t, "i32 f;"), 0, api.ErrForm},
		{"a name", read(t, "i32 main() { x = 1i32; }"), 4, api.ErrName},
		{"a type", read(t, "i32 main() { print(1i32 + 1u8); }"), 6, api.ErrType},
		{"a call", read(t, "i32 main() { main(); }"), 3, api.ErrCall},
		{"twice", read(t, "u8 x; u8 x; i32 main() { }"), 2, api.ErrTwice},
		{"rounds", read(t, "i32 main() { for i = 0i32 to 17i32 { } }"), 3, api.ErrArg},
		{"behind what is unsafe", read(t, "i32 main() { print(1i32 / 0i32); print(x); }"), 8, api.ErrName},
		{"behind what is too long", long, number(t, long, api.Node{Kind: api.Call, Name: "main"}), api.ErrCall},
		{"a function behind", read(t, "i32 main() { print(1i32 / 0i32); } i32 f() { } i32 main() { }"), 9, api.ErrTwice},
		{"too deep", printing(api.U8, deep), 0, api.ErrLong},
		{"too many", many, 0, api.ErrLong},
		{"a ring", ring[0], 0, api.ErrLong},
		{"another kind", printing(api.U8, api.Node{Kind: 77}), 5, api.ErrForm},
	} {
		if at, e := types.Check(r.n); at != r.at || e != r.e {
			t.Errorf("%s: types says %d at %d", r.what, e, at)
		}
		answers(t, r.n, nil, r.at, r.e)
	}
}

// Trees as great and as deep as may be are asked; a statement has as many steps as it has nodes.
func TestGreatTrees(t *testing.T) {
	e := lit(api.U8, 1)
	for tree.Size(e) < 1900 {
		e = binary(api.Xor, e, e)
	}
	n := printing(api.U8, e)
	answers(t, n, []int{2 + tree.Size(e)}, 0, api.OK)
	halts(t, "great", n, 2+tree.Size(e))
	deep := lit(api.U8, 1)
	for range api.MaxDepth - 5 {
		deep = unary(api.Not, deep)
	}
	n = printing(api.U8, deep)
	if tree.Depth(n) != api.MaxDepth {
		t.Fatal(tree.Depth(n))
	}
	answers(t, n, []int{2 + tree.Size(deep)}, 0, api.OK)
	stats := slices.Repeat([]api.Node{{Kind: api.Print, Kids: []api.Node{lit(api.U8, 3)}}}, (api.MaxNodes-4)/2)
	stats = append(stats, api.Node{Kind: api.Let, Name: "x", Type: whole(api.U8)})
	n.Kids[0].Kids[0].Kids = stats
	if tree.Size(n) != api.MaxNodes {
		t.Fatal(tree.Size(n))
	}
	answers(t, n, []int{api.MaxNodes - 3}, 0, api.OK)
	halts(t, "many", n, api.MaxNodes-3)
}

// P11.1, P11.2, P4: programs made of draws are worth what the model says; those that are safe halt within their steps.
func TestRandomPrograms(t *testing.T) {
	r := rand.New(rand.NewSource(11))
	seen := map[api.Errno]int{}
	atBlock, close := 0, 0
	for i := range 6000 {
		m := &maker{Rand: r, careless: []int{0, 10, 50}[i%3], rounds: []int{3, api.MaxLoop}[i%2], loops: []int{8, 40}[i%2]}
		n := m.program()
		if at, e := types.Check(n); e != api.OK {
			t.Fatalf("the tests' maker: %d at %d: %+v", e, at, n)
		}
		list, at, e := hold(t, n)
		seen[e]++
		if e == api.ErrUnsafe && m.careless == 0 {
			s, _ := show.Text(n)
			t.Fatalf("the tests' maker: unsafe at %d: %s", at, s)
		}
		if broken, _ := tree.At(n, at); e == api.ErrLimit && broken.Kind == api.Block {
			atBlock++
		}
		if e != api.OK {
			continue
		}
		s, _ := show.Text(n)
		if steps := list[len(list)-1]; steps > 50 && halts(t, s, n, steps) == steps {
			close++
		}
	}
	t.Logf("%v, %d at a Block, %d take all their steps", seen, atBlock, close)
	if seen[api.OK] < 1000 || seen[api.ErrUnsafe] < 500 || seen[api.ErrLimit] < 100 || atBlock < 20 || close < 20 {
		t.Errorf("too few of some kind: %v, %d, %d", seen, atBlock, close)
	}
}

// P11.2: where a run leaves out nothing, it takes just the steps that are told.
func TestRandomStraightPrograms(t *testing.T) {
	r := rand.New(rand.NewSource(12))
	long := 0
	for range 3000 {
		n := (&maker{Rand: r, straight: true, rounds: 8, loops: 15}).program()
		list, _, e := hold(t, n)
		if e == api.ErrLimit {
			continue
		}
		s, _ := show.Text(n)
		steps := list[len(list)-1]
		if took := halts(t, s, n, steps); took != steps {
			t.Fatalf("%s\ntook %d steps; told %d", s, took, steps)
		}
		if steps > 200 {
			long++
		}
	}
	if long < 200 {
		t.Errorf("%d long ones", long)
	}
}

// spoil changes something at one node.
func spoil(r *rand.Rand, n api.Node) api.Node {
	n = tree.Copy(n)
	list := []*api.Node{&n}
	for i := 0; i < len(list); i++ {
		for j := range list[i].Kids {
			list = append(list, &list[i].Kids[j])
		}
	}
	at, other := list[r.Intn(len(list))], list[r.Intn(len(list))]
	switch r.Intn(10) {
	case 0:
		at.Kind = byte(r.Intn(26))
	case 1:
		at.Op = byte(r.Intn(20))
	case 2:
		at.Type.Int = byte(r.Intn(7))
	case 3:
		at.N = []int64{-1, 0, 1, 2, 100, -1 << 63, 1<<63 - 1}[r.Intn(7)]
	case 4:
		at.M = []int64{-1, 0, 1, 2, 16, -1 << 63, 1<<63 - 1}[r.Intn(7)]
	case 5:
		at.Name = other.Name
	case 6:
		at.Type.N = r.Intn(20) - 1
	case 7:
		if len(at.Kids) > 0 {
			at.Kids = at.Kids[:r.Intn(len(at.Kids))]
		}
	case 8:
		at.Kids = append(at.Kids, tree.Copy(*other))
	default:
		*at = tree.Copy(*other)
	}
	return n
}

// P1: whatever is wrong with a program, types says what; what is still right is worth what the model says.
func TestSpoiltPrograms(t *testing.T) {
	r := rand.New(rand.NewSource(13))
	seen := map[api.Errno]int{}
	for range 1500 {
		n := (&maker{Rand: r, careless: 5, rounds: 9, loops: 25}).program()
		for range 8 {
			n = spoil(r, n)
			list, _, e := hold(t, n)
			if seen[e]++; e == api.OK {
				halts(t, "spoilt", n, list[len(list)-1])
			}
		}
	}
	t.Log(seen)
	for _, e := range []api.Errno{api.OK, api.ErrArg, api.ErrForm, api.ErrName, api.ErrTwice, api.ErrType, api.ErrUnsafe, api.ErrLimit} {
		if seen[e] < 10 {
			t.Errorf("%d programs with %d", seen[e], e)
		}
	}
}

// P1: trees of any nodes.
func TestAnyTrees(t *testing.T) {
	r := rand.New(rand.NewSource(14))
	var any func(depth int) api.Node
	any = func(depth int) api.Node {
		n := api.Node{Kind: byte(r.Intn(27)), Op: byte(r.Intn(20)), Type: api.Type{Kind: byte(r.Intn(5)), Int: byte(r.Intn(8)), N: r.Intn(4) - 1}, N: int64(r.Intn(5) - 1), M: int64(r.Intn(5) - 1), Name: []string{"", "x", "main", "0"}[r.Intn(4)], Field: []string{"", "x"}[r.Intn(2)]}
		for range r.Intn(4) {
			if depth > 0 {
				n.Kids = append(n.Kids, any(depth-1))
			}
		}
		return n
	}
	for range 5000 {
		n := any(4)
		hold(t, n)
		p := printing(api.U8, any(2))
		p.Kids[0].Kids[0].Kids = append(p.Kids[0].Kids[0].Kids, any(3))
		hold(t, p)
	}
}

// spare gives all lists of a tree spare room with nodes in it.
func spare(n api.Node) api.Node {
	list := make([]api.Node, 0, len(n.Kids)+2)
	for _, kid := range n.Kids {
		list = append(list, spare(kid))
	}
	n.Kids = list
	room := list[:cap(list)]
	for i := len(list); i < len(room); i++ {
		room[i] = api.Node{Kind: 77, Name: "room"}
	}
	return n
}

// textOf tells a tree with the spare room of its lists.
func textOf(n api.Node) string {
	s := fmt.Sprintf("<%d %d %v %d %d %q %q %d", n.Kind, n.Op, n.Type, n.N, n.M, n.Name, n.Field, len(n.Kids))
	for _, kid := range n.Kids[:cap(n.Kids)] {
		s += textOf(kid)
	}
	return s + ">"
}

// ruin writes over all memory of a tree.
func ruin(n *api.Node) {
	for i := range n.Kids[:cap(n.Kids)] {
		ruin(&n.Kids[:cap(n.Kids)][i])
	}
	*n = api.Node{Kind: 99, Name: "ruined"}
}

// Memory: a program isn't changed, nor kept; a list is new; P2: the same program is worth the same again, whatever was asked between.
func TestMemory(t *testing.T) {
	for _, r := range []struct {
		text string
		list []int
		at   int
		e    api.Errno
	}{
		{"u8 g = 3u8; u8 f(u8 *p) { *p = 4u8; } i32 main() { u8 a[2i32]; for i = 0i32 to 2i32 { a[i] = f(&g); } for i = 3i32 to 3i32 { print(a[i]); } return 4i32; }", []int{3, 1 + 1 + 2*(1+1+2+1+3) + 1 + 2}, 0, api.OK},
		{"i32 main() { print(1u8); print(2u8); print(1u8 / 0u8); }", nil, 8, api.ErrUnsafe},
		{"i32 main() { " + spend(20000) + " u8 z; }", nil, 2, api.ErrLimit},
		{"i32 main() { print(1u8); x = 3u8; }", nil, 6, api.ErrName},
	} {
		n := spare(read(t, r.text))
		text := textOf(n)
		answers(t, n, r.list, r.at, r.e)
		first, _, _ := Costs(n)
		second, _, _ := Costs(n)
		room := first[:cap(first)]
		for i := range room {
			room[i] = 99
		}
		if !slices.Equal(second, r.list) {
			t.Errorf("%.500s: two lists share memory", r.text)
		}
		Check(read(t, inMain("print(1u8 / 0u8);")))
		answers(t, n, r.list, r.at, r.e)
		if textOf(n) != text {
			t.Errorf("%.500s: the program is changed", r.text)
		}
		lost := spare(read(t, r.text))
		third, _, _ := Costs(lost)
		ruin(&lost)
		if !slices.Equal(third, r.list) {
			t.Errorf("%.500s: the program is kept", r.text)
		}
		answers(t, n, r.list, r.at, r.e)
	}
}

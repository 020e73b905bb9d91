package lower

import (
	"fmt"
	"slices"
	"strings"
	"testing"

	"burin/api"
	"burin/eval"
	"burin/ir"
	"burin/run"
)

// P15.2: places of arrays of all lengths, global and local, read, written, led to and taking an answer: the first, the last, one below and one beyond.
func TestPlaces(t *testing.T) {
	for length := 1; length <= api.MaxArray; length++ {
		array := fmt.Sprintf("i16 a[%di32]; ", length)
		for _, at := range []int{-128, -1, 0, 1, length / 2, length - 1, length, length + 1, 127} {
			for _, do := range []string{"print(a[P]);", "a[P] = 7i16;", "a[P] = f();", "k(&a[P]);"} {
				do = fmt.Sprintf("print(1u8); i8 p = %s; ", lit(api.I8, int64(at))) + strings.Replace(do, "P", "p", 1)
				for _, ahead := range [][2]string{{array, ""}, {"", array}} {
					text := ahead[0] + "i16 f() { print(2u8); return 7i16; } i16 k(i16 *p) { print(2u8); *p = 7i16; } i32 main() { " + ahead[1] + do + fmt.Sprintf(" print(a[0i32]); print(a[%di32]); }", length-1)
					o := hold(t, text, read(t, text))
					if within := 0 <= at && at < length; o.Halted != within || !within && (o.Trap != api.TrapIndex || !slices.Equal(o.Trace, []int64{1})) {
						t.Fatalf("%s: %+v", text, o)
					}
				}
			}
		}
	}
}

// P15.2: places by numbers of all types, the greatest too.
func TestPlacesOfAllTypes(t *testing.T) {
	for typ := range byte(6) {
		for k := range sources {
			for _, v := range edges(typ) {
				g, l, r := number(k, typ, "p", v)
				text := g + "u8 a[2i32]; i32 main() { a[1i32] = 3u8; " + l + "print(a[" + r + "]); }"
				want := traps(text, api.TrapIndex)
				if 0 <= v && v < 2 {
					want = halts(text, 0, v*3)
				}
				judge(t, []told{want})
			}
		}
	}
}

// trapping expressions, all of i32, with what is declared ahead.
const trapsAhead = "struct s { i32 x; } i32 arr[4i32]; i32 low = #-2147483648i32; i32 zero; struct s v; "

var trapping = []struct {
	text string
	trap api.Trap
}{
	{"(2147483647i32 + 1i32)", api.TrapOver},
	{"(-low)", api.TrapOver},
	{"(low * low)", api.TrapOver},
	{"(low / #-1i32)", api.TrapOver},
	{"(1i32 << 31u8)", api.TrapOver},
	{"(1i32 / zero)", api.TrapZero},
	{"(1i32 % zero)", api.TrapZero},
	{"(1i32 << 32u8)", api.TrapShift},
	{"(1i32 >> #-1i8)", api.TrapShift},
	{"arr[4i32]", api.TrapIndex},
	{"arr[#-1i8]", api.TrapIndex},
}

// P15.2: each trap at each place where an expression stands, behind some prints: what stands behind it isn't done.
func TestTrapsAtEachPlace(t *testing.T) {
	ahead := trapsAhead + "i32 f(i32 x, i32 y) { print(30u8); return x; } i32 k(i32 *p, i32 x) { print(31u8); *p = x; } i32 l() { print(32u8); return E; } i32 m() { print(33u8); i32 x; x = l(); print(34u8); } "
	for _, place := range []struct {
		text  string
		trace []int64
	}{
		{"i32 x = E;", nil},
		{"zero = E;", nil},
		{"i32 x; x = E;", nil},
		{"arr[1i32] = E;", nil},
		{"arr[E] = 1i32;", nil},
		{"v.x = E;", nil},
		{"if (E) { print(1u8); }", nil},
		{"if (1i32) { i32 x = E; }", nil},
		{"if (0i32) { } else { zero = E; }", nil},
		{"print(E);", nil},
		{"return E;", nil},
		{"for i = 0i32 to 3i32 { print(i); if (i == 1i32) { zero = E; } }", []int64{0, 1}},
		{"f(E, 1i32);", nil},
		{"f(1i32, E);", nil},
		{"zero = f(1i32, E);", nil},
		{"arr[E] = f(1i32, 2i32);", nil},
		{"k(&arr[E], 1i32);", nil},
		{"k(&v.x, E);", nil},
		{"f(1i32, 2i32); k(&arr[1i32], E);", []int64{30}},
		{"l();", []int64{32}},
		{"zero = l();", []int64{32}},
		{"arr[2i32] = l();", []int64{32}},
		{"m(); print(1u8);", []int64{33, 32}},
		{"print(-E);", nil},
		{"print((u8)E);", nil},
		{"print(E + 1i32);", nil},
		{"print(1i32 + E);", nil},
		{"print(1i32 && E);", nil},
		{"print(0i32 || E);", nil},
		{"print(E ? 1u8 : 2u8);", nil},
		{"print(1u8 ? E : 2i32);", nil},
		{"print(0u8 ? 2i32 : E);", nil},
		{"print(arr[E]);", nil},
		{"print(arr[arr[E]]);", nil},
	} {
		for _, e := range trapping {
			text := strings.ReplaceAll(ahead+"i32 main() { print(20u8); "+place.text+" print(21u8); }", "E", e.text)
			judge(t, []told{traps(text, e.trap, append([]int64{20}, place.trace...)...)})
		}
	}
}

// P15.2: cells stand apart, of globals and of locals.
func TestCells(t *testing.T) {
	const do = "v.x = 1u8; v.y = 2i16; v.z = 3u32; w.x = 4u8; w.z = 6u32; a[0i32] = 7u8; a[2i32] = 9u8; b = 10u8; " +
		"print(v.x); print(v.y); print(v.z); print(w.x); print(w.y); print(w.z); print(a[0i32]); print(a[1i32]); print(a[2i32]); print(b);"
	const declared = "struct s v; struct s w; u8 a[3i32]; u8 b; "
	const ahead = "struct s { u8 x; i16 y; u32 z; } "
	want := []int64{1, 2, 3, 4, 0, 6, 7, 0, 9, 10}
	judge(t, []told{
		halts(ahead+declared+"i32 main() { "+do+" }", 0, want...),
		halts(ahead+"i32 main() { "+declared+do+" }", 0, want...),
		halts(ahead+declared+"i32 f() { "+declared+do+" } i32 main() { "+do+" f(); "+do+" }", 0, slices.Repeat(want, 3)...),
	})
	// A struct of as many fields as may be.
	text := "struct s { u8 a; u8 b; u8 c; u8 d; u8 e; u8 f; u8 g; u8 h; } struct s v; i32 main() { struct s w; "
	for i := range 8 {
		text += fmt.Sprintf("v.%c = %du8; w.%c = %du8; ", 'a'+i, i, 'a'+i, 10+i)
	}
	var trace []int64
	for i := range 8 {
		text += fmt.Sprintf("print(v.%c); print(w.%c); ", 'a'+i, 'a'+i)
		trace = append(trace, int64(i), int64(10+i))
	}
	judge(t, []told{halts(text+"}", 0, trace...)})
}

// P15.2, P15.3: globals begin with their first numbers, and stand in order.
func TestGlobals(t *testing.T) {
	text := "u8 a = 255u8; i8 b = #-128i8; struct s { u8 x; u8 y; u8 z; } u32 c = 4294967295u32; i32 d; u16 e[2i32]; i16 f = 0i16; struct s g; i32 k() { a = a + 1u8; print(a); } i32 h = 4i32; i32 main() { k(); k(); print(a); print(b); print(c); print(d); print(e[1i32]); print(f); print(g.z); print(h); u8 a = 4u8; print(a); k(); }"
	judge(t, []told{halts(text, 0, 0, 1, 1, -128, 4294967295, 0, 0, 0, 0, 4, 4, 2)})
	c := made(t, text, read(t, text))
	if !slices.Equal(c.Globals, []int{1, 1, 1, 1, 2, 1, 3, 1}) || !slices.Equal(c.Inits, []int64{255, -128, 4294967295, 0, 0, 0, 0, 4}) || len(c.Fns) != 2 {
		t.Errorf("%v, %v, %d functions", c.Globals, c.Inits, len(c.Fns))
	}
	judge(t, []told{halts("i32 main() { print(1u8); }", 0, 1)})
	if c := made(t, "no globals", read(t, "i32 main() { }")); len(c.Globals) != 0 || len(c.Inits) != 0 {
		t.Errorf("%v", c)
	}
}

// P15.2: locals are new whenever their Let is run: in each round, in each call, kept in a register or in cells.
func TestLocalsAreNew(t *testing.T) {
	judge(t, []told{
		halts("i32 main() { for i = 0i32 to 3i32 { u8 x; print(x); x = 7u8; u8 a[2i32]; print(a[1i32]); a[1i32] = 8u8; } }", 0, 0, 0, 0, 0, 0, 0),
		halts("i32 main() { for i = 0i32 to 3i32 { if (1i32) { u8 x; print(x); x = 7u8; u8 a[1i32]; print(a[0i32]); a[0i32] = 8u8; } } }", 0, 0, 0, 0, 0, 0, 0),
		halts("struct s { u8 x; u8 y; } i32 main() { for i = 0i32 to 2i32 { struct s v; print(v.y); v.y = 7u8; print(v.y); print(v.x); v.x = 9u8; } }", 0, 0, 7, 0, 0, 7, 0),
		halts("u8 f(u8 *p) { *p = *p + 5u8; } i32 main() { for i = 0i32 to 2i32 { u8 x; print(x); f(&x); print(x); u8 y = 9u8; f(&y); print(y); } }", 0, 0, 5, 14, 0, 5, 14),
		halts("u8 f(u8 *p) { *p = *p + 5u8; } u8 g(u8 x) { u8 y; f(&y); f(&x); print(x); print(y); u8 a[2i32]; f(&a[1i32]); print(a[1i32]); } i32 main() { g(1u8); g(2u8); }", 0, 6, 5, 5, 7, 5, 5),
		halts("i32 f() { u8 a[3i32]; print(a[2i32]); a[2i32] = 4u8; u8 x; print(x); x = 5u8; } i32 main() { f(); f(); for i = 0i32 to 2i32 { f(); } }", 0, 0, 0, 0, 0, 0, 0, 0, 0),
		halts("i32 main() { u8 x = 1u8; if (1i32) { u8 x = x + 1u8; print(x); x = 9u8; } print(x); if (1i32) { u8 x; print(x); } }", 0, 2, 1, 0),
		halts("i32 main() { u8 x = 1u8; u8 y = x; x = 2u8; print(y); for i = 0i32 to 2i32 { u8 z = x; x = x + 1u8; print(z); } }", 0, 1, 2, 3),
	})
	for length := 1; length <= api.MaxArray; length++ {
		// All cells are 0 in the second round, and no other one is.
		text := fmt.Sprintf("u32 s; i32 main() { u32 b[16i32]; for i = 0i32 to 16i32 { b[i] = 1u32; } u32 c[16i32]; for k = 0i32 to 2i32 { u32 a[%di32]; for i = 0i32 to %di32 { s = s + a[i]; a[i] = 100u32; } for i = 0i32 to 16i32 { s = s + b[i] + c[i]; } } print(s); }", length, length)
		judge(t, []told{halts(text, 0, 32)})
	}
}

// P15.2: arguments, answers, and functions that call those ahead of them.
func TestCalls(t *testing.T) {
	judge(t, []told{
		halts("i16 f(i16 a, i16 b, i16 c, i16 d, i16 e, i16 g) { print(a); print(b); print(c); print(d); print(e); print(g); } i32 main() { f(1i16, 2i16, 3i16, 4i16, 5i16, 6i16); }", 0, 1, 2, 3, 4, 5, 6),
		halts("u8 x = 9u8; u8 f(u8 x) { x = x + 1u8; print(x); return x; } i32 main() { u8 y = 3u8; y = f(y); print(x); print(y); }", 0, 4, 9, 4),
		halts("i8 f(i8 x) { return -x; } i8 g(i8 x) { i8 y; y = f(x); y = f(y); return y + x; } i32 main() { i8 z; z = g(#-5i8); print(z); return (i32)z; }", -10, -10),
		halts("u8 f(u8 a, u8 b) { print(a); print(b); a = b; b = 7u8; return a; } i32 main() { u8 x = 1u8; u8 y = 2u8; x = f(x, y); print(x); print(y); y = f(y, y + x); print(y); x = f((u8)(x && y), x ? y : 1u8 / 0u8); print(x); }",
			0, 1, 2, 2, 2, 2, 4, 4, 1, 4, 4),
		halts("i32 f(i32 n) { i32 s; for i = 0i32 to 3i32 { s = s + n; if (i == n) { return s; } } return 100i32; } i32 main() { i32 x; for n = 0i32 to 4i32 { x = f(n); print(x); } }", 0, 0, 2, 6, 100),
		halts("u8 a() { print(1u8); return 1u8; } u8 b() { u8 x; x = a(); print(2u8); return x + 1u8; } u8 c() { u8 x; x = b(); u8 y; y = a(); return x + y; } i32 main() { u8 z; z = c(); print(z); z = b(); print(z); a(); }", 0, 1, 2, 1, 3, 1, 2, 2, 1),
	})
	// As many calls in one another as there can be.
	last := 660
	chain := "i32 f0() { return 5i32; } "
	for i := 1; i <= last; i++ {
		chain += fmt.Sprintf("i32 f%d() { x = f%d(); return x; } ", i, i-1)
	}
	judge(t, []told{halts("i32 x; "+chain+fmt.Sprintf("i32 main() { x = f%d(); return x; }", last), 5)})
}

// P15.2: refs to all that can be written, handed on, two to one cell, and beside the number of what they lead to.
func TestRefs(t *testing.T) {
	judge(t, []told{
		halts("u8 f(u8 *p, u8 *q) { *p = 1u8; print(*q); *q = 2u8; print(*p); } i32 main() { u8 x = 7u8; f(&x, &x); print(x); }", 0, 1, 2, 2),
		halts("u8 f(u8 *p, u8 *q) { *p = 1u8; print(*q); *q = 2u8; print(*p); } i32 main() { u8 x = 7u8; u8 y = 8u8; f(&x, &y); print(x); print(y); }", 0, 8, 1, 1, 2),
		halts("u8 f(u8 *p) { *p = *p + 1u8; } u8 g(u8 *p) { f(&*p); f(&*p); } u8 h = 3u8; i32 main() { u8 a[2i32]; g(&a[1i32]); print(a[0i32]); print(a[1i32]); g(&h); print(h); u8 l; g(&l); print(l); }", 0, 0, 2, 5, 2),
		halts("struct s { u8 x; u8 y; } u8 f(u8 *p) { *p = 6u8; return 5u8; } i32 main() { struct s v; v.x = f(&v.y); print(v.x); print(v.y); v.y = f(&v.y); print(v.y); }", 0, 5, 6, 5),
		halts("u8 f(u8 *p) { *p = 2u8; return 5u8; } i32 main() { u8 i; u8 a[3i32]; a[i] = f(&i); print(a[0i32]); print(a[2i32]); print(i); }", 0, 5, 0, 2),
		halts("u8 f(u8 *p) { *p = 2u8; return 5u8; } u8 i; u8 a[3i32]; i32 main() { a[i] = f(&i); print(a[0i32]); print(a[2i32]); print(i); a[i] = f(&a[1i32]); print(a[1i32]); print(a[2i32]); }", 0, 5, 0, 2, 2, 5),
		halts("u8 f(u8 *p, u8 x) { *p = 2u8; print(x); } i32 main() { u8 i = 1u8; f(&i, i); print(i); }", 0, 1, 2),
		halts("u8 f(u8 x, u8 *p) { x = 2u8; print(*p); } i32 main() { u8 i = 1u8; f(i, &i); print(i); }", 0, 1, 1),
		halts("u8 f(u8 *p) { u8 x = 3u8; *p = x; } i32 main() { u8 x; u8 y; f(&y); print(x); print(y); }", 0, 0, 3),
		halts("u8 g = 4u8; u8 f(u8 *p) { *p = 6u8; print(g); g = 7u8; print(*p); return g + *p; } i32 main() { u8 x; x = f(&g); print(x); g = f(&g); print(g); }", 0, 6, 7, 14, 6, 7, 14),
		// A parameter to which a Ref leads, beside others to which none does.
		halts("u8 f(u8 *p) { *p = *p + 1u8; } u8 g(u8 a, u8 b, u8 *c, u8 d) { f(&b); f(&*c); f(&d); print(a); print(b); print(*c); print(d); b = b * 2u8; f(&b); print(b); return b; } i32 main() { u8 x = 30u8; x = g(10u8, 20u8, &x, x); print(x); }", 0, 10, 21, 31, 31, 43, 43),
		halts("u8 f(u8 *p) { for i = 0i32 to 2i32 { *p = *p + 1u8; } } i32 main() { for i = 5i32 to 7i32 { u8 x = 9u8; f(&x); print(x); print(i); } }", 0, 11, 5, 11, 6),
		halts("u8 f(u8 *p) { return *p; } i32 main() { u8 x = 9u8; if (x) { u8 x = x + 1u8; u8 y; y = f(&x); print(y); } print(x); }", 0, 10, 9),
		halts("i32 f(i32 *p) { *p = *p && 1i32 / *p == 0i32; *p = *p ? *p : 3i32; } i32 main() { i32 x = 9i32; f(&x); print(x); f(&x); print(x); }", 0, 1, 3),
		halts("u8 f(u8 *a, i8 *b, u16 *c, i16 *d, u32 *e, i32 *g) { *a = 255u8; *b = #-128i8; *c = 65535u16; *d = #-32768i16; *e = 4294967295u32; *g = #-2147483648i32; } i32 main() { u8 a; i8 b; u16 c; i16 d; u32 e; i32 g; f(&a, &b, &c, &d, &e, &g); print(a); print(b); print(c); print(d); print(e); print(g); }", 0, 255, -128, 65535, -32768, 4294967295, -2147483648),
	})
}

// P15.2: as many cells at a time as a program can have.
func TestMuchMemory(t *testing.T) {
	arrays := func(count int) string {
		var s strings.Builder
		for i := range count {
			fmt.Fprintf(&s, "u8 a%d[16i32];", i)
		}
		return s.String()
	}
	judge(t, []told{
		halts(arrays(3990)+"i32 main() { a0[15i32] = 1u8; print(a3989[15i32]); }", 0, 0),
		halts("i32 main() { "+arrays(3980)+"a0[15i32] = 1u8; print(a3979[15i32]); }", 0, 0),
		halts("i32 f() { "+arrays(1300)+"print(1u8); } i32 g() { "+arrays(1300)+"f(); } i32 main() { "+arrays(1300)+"g(); f(); }", 0, 1, 1),
	})
}

// P15.2: how many steps are taken, where eval.Run takes few: in each round cells are made 0, or a call begins and does nothing.
func TestSteps(t *testing.T) {
	rounds := func(body string) string {
		return "for i = 0i32 to 16i32 { for j = 0i32 to 16i32 { " + body + " } }"
	}
	for _, text := range []string{
		"i32 main() { }",
		"i32 f() { } i32 main() { " + rounds("f();") + " }",
		"i32 main() { " + rounds(strings.Repeat("if (1i32) { u8 a[16i32]; }", 100)) + " }",
		"i32 main() { " + rounds("u8 a[16i32]; u8 b[16i32]; u8 c[16i32]; u8 d[16i32];") + " }",
		"struct s { u8 a; u8 b; u8 c; u8 d; u8 e; u8 f; u8 g; u8 h; } i32 main() { " + rounds("struct s a; struct s b; struct s c;") + " }",
		"u8 k(u8 *p) { } u8 f(u8 a, u8 b, u8 c, u8 d, u8 e, u8 g) { k(&a); k(&b); k(&c); k(&d); k(&e); k(&g); return 1u8; } i32 main() { u8 x; " + rounds("x = f(1u8, 2u8, 3u8, 4u8, 5u8, 6u8);") + " }",
		"u8 k(u8 *p) { } u8 f(u8 a, u8 b, u8 c, u8 d, u8 e, u8 g) { return 1u8; k(&a); k(&b); k(&c); k(&d); k(&e); k(&g); } i32 main() { u8 x; " + rounds("x = f(1u8, 2u8, 3u8, 4u8, 5u8, 6u8);") + " }",
		"u8 x; i32 main() { " + rounds("print(x && x || x && x || !x ? x : !x ? x : x);") + " }",
	} {
		o := hold(t, text, read(t, text))
		if !o.Halted {
			t.Errorf("%s: %+v", text, o)
		}
		got, _ := run.Run(made(t, text, read(t, text)), api.MaxFuel)
		t.Logf("%.60s: %d steps, %d of the code's", text, o.Steps, got.Steps)
	}
}

// P15.2: programs that don't end within the steps: neither does their code, behind the same trace.
func TestSpent(t *testing.T) {
	s := "n = n + 1u32;"
	for i := range 6 {
		s = fmt.Sprintf("for i%d = 0i32 to 16i32 { %s }", i, s)
	}
	text := "u32 n; i32 main() { print(7u8); " + s + " print(n); return 1i32; }"
	if o := hold(t, text, read(t, text)); !o.Fuel || !slices.Equal(o.Trace, []int64{7}) {
		t.Errorf("%+v", o)
	}
	o, e := run.Run(made(t, text, read(t, text)), api.MaxFuel)
	if e != api.OK || !o.Fuel || !slices.Equal(o.Trace, []int64{7}) {
		t.Errorf("%+v, %d", o, e)
	}
	// With each number of steps that is too few the trace is the beginning of the whole.
	text = "u8 g; u8 f(u8 *p) { *p = *p + 1u8; print(*p); return *p; } i32 main() { for i = 0i32 to 3i32 { u8 x = g && g ? g : 1u8; g = f(&x); print(i); } print(g); }"
	n := read(t, text)
	c := made(t, text, n)
	whole, _, _ := eval.Run(n, enough)
	printed := 0
	for fuel := range 100 + 100*whole.Steps {
		o, e := run.Run(c, fuel)
		if e != api.OK || o.Trap != api.NoTrap || !begins(o.Trace, whole.Trace) || len(o.Trace) < printed {
			t.Fatalf("with %d steps: %+v, %d", fuel, o, e)
		}
		printed = len(o.Trace)
		if o.Halted {
			break
		}
	}
	if printed != len(whole.Trace) || printed != 7 {
		t.Errorf("%d printed", printed)
	}
}

// What the passes are to find: a variable without an address is kept in no cell, so that no instruction reads or writes one for it, and a small function is small.
func TestWhatIsKeptInRegisters(t *testing.T) {
	for _, r := range []struct {
		text  string
		fn    int
		slots []int
		count int
	}{
		{"u32 f(u32 x, u32 y) { return x ^ (y << 1u8); } i32 main() { }", 0, nil, 4},
		{"i32 f(i32 x) { i32 y = x; x = 2i32; print(y); return x; } i32 main() { }", 0, nil, 4},
		{"i32 main() { for i = 0i32 to 3i32 { print(i); } return 0i32; }", 0, nil, 11},
		{"u8 f(u8 *p) { } i32 main() { u8 x; u8 y; u8 a[5i32]; f(&y); f(&a[3i32]); }", 1, []int{1, 5}, 10},
	} {
		f := made(t, r.text, read(t, r.text)).Fns[r.fn]
		if count := ir.Count(api.Code{Fns: []api.Fn{f}}); !slices.Equal(f.Slots, r.slots) || count > r.count {
			t.Errorf("%s: slots %v, %d instructions and parts: %v", r.text, f.Slots, count, f)
		}
		if len(r.slots) == 0 && insts(f, api.ILoad)+insts(f, api.IStore) != 0 {
			t.Errorf("%s: %v", r.text, f)
		}
	}
}

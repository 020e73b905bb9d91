package eval

import (
	"fmt"
	"math"
	"slices"
	"strings"
	"testing"

	"burin/api"
	"burin/ints"
	"burin/parse"
	"burin/tree"
	"burin/types"
)

// The signature that the chapter lists.
var _ func(api.Node, int) (api.Outcome, int, api.Errno) = Run

func read(t *testing.T, s string) api.Node {
	t.Helper()
	n, at, e := parse.Parse(s)
	if e != api.OK {
		t.Fatalf("Parse(%.500q): %d at %d", s, e, at)
	}
	return n
}

func halted(exit int64, steps int, trace ...int64) api.Outcome {
	return api.Outcome{Halted: true, Exit: exit, Steps: steps, Trace: trace}
}

func trapped(trap api.Trap, steps int, trace ...int64) api.Outcome {
	return api.Outcome{Trap: trap, Steps: steps, Trace: trace}
}

func spent(steps int, trace ...int64) api.Outcome {
	return api.Outcome{Fuel: true, Steps: steps, Trace: trace}
}

// ends asks how a run of a text ends.
func ends(t *testing.T, s string, fuel int, want api.Outcome) {
	t.Helper()
	runs(t, s, read(t, s), fuel, want)
}

// A run of a text, and how it should end with steps enough.
type told struct {
	text string
	want api.Outcome
}

// judge asks it with steps enough, and holds the runs with fewer against the model's.
func judge(t *testing.T, list []told) {
	t.Helper()
	for _, r := range list {
		ends(t, r.text, 100000, r.want)
		hold(t, r.text, read(t, r.text), each)
	}
}

// mains are texts of main's statements alone.
func mains(ahead string, list []told) []told {
	var all []told
	for _, r := range list {
		all = append(all, told{ahead + " i32 main() { " + r.text + " }", r.want})
	}
	return all
}

// The chapter's examples.
func TestExamples(t *testing.T) {
	first := "i32 main() { print(1i32); return 7i32; }"
	ends(t, first, 100, halted(7, 4, 1))
	ends(t, first, 4, halted(7, 4, 1))
	ends(t, first, 3, spent(3, 1))
	second := "i32 main() { u8 a[2i32]; a[2i32] = 1u8; return 0i32; }"
	ends(t, second, 100, trapped(api.TrapIndex, 4))
	ends(t, "i32 main() { print(100i8 + 28i8); }", 100, trapped(api.TrapOver, 4))
	ends(t, "i32 main() { i32 s; for i = 1i32 to 4i32 { s = s + i; } return s; }", 100, halted(6, 22))
}

// P9.1: the steps of each kind of statement and of variable, counted by hand.
func TestStatements(t *testing.T) {
	const ahead = "struct s { u8 x; i16 y; } u8 g; u8 a[3i32]; struct s v; i16 w = #-7i16; u8 f() { return 9u8; } u8 k(u8 *p) { *p = 5u8; }"
	judge(t, mains(ahead, []told{
		{"", halted(0, 0)},
		{"u8 x;", halted(0, 1)},
		{"u8 x[16i32];", halted(0, 1)},
		{"struct s x;", halted(0, 1)},
		{"u8 x = 200u8; print(x);", halted(0, 4, 200)},
		{"g = 3u8; print(g);", halted(0, 5, 3)},
		{"a[1i32] = 3u8; print(a[1i32]); print(a[0i32]);", halted(0, 10, 3, 0)},
		{"v.y = 3i16; print(v.y); print(v.x);", halted(0, 7, 3, 0)},
		{"print(w);", halted(0, 2, -7)},
		{"if (0i32) { }", halted(0, 2)},
		{"if (1i32) { }", halted(0, 2)},
		{"if (0i32) { print(1u8); }", halted(0, 2)},
		{"if (1i32) { print(1u8); }", halted(0, 4, 1)},
		{"if (0i32) { print(1u8); } else { }", halted(0, 2)},
		{"if (0u8) { print(1u8); } else { print(2u8); print(3u8); }", halted(0, 6, 2, 3)},
		{"if (2u8) { print(1u8); } else { print(2u8); print(3u8); }", halted(0, 4, 1)},
		{"if (#-1i8) { print(1u8); } else { print(2u8); }", halted(0, 4, 1)},
		{"for i = 0i32 to 0i32 { print(i); }", halted(0, 1)},
		{"for i = 7i32 to 7i32 { print(i); }", halted(0, 1)},
		{"for i = 0i32 to 1i32 { }", halted(0, 2)},
		{"for i = 0i32 to 16i32 { }", halted(0, 17)},
		{"for i = 2i32 to 5i32 { print(i); }", halted(0, 10, 2, 3, 4)},
		{"for i = 2147483646i32 to 2147483647i32 { print(i); }", halted(0, 4, 2147483646)},
		{"for i = 0i32 to 2i32 { for j = 1i32 to 3i32 { print(i + j); } }", halted(0, 1+2+2+4*(1+1+3), 1, 2, 2, 3)},
		{"f();", halted(0, 3)},
		{"g = f(); print(g);", halted(0, 6, 9)},
		{"a[2i32] = f(); print(a[2i32]);", halted(0, 8, 9)},
		{"v.x = f(); print(v.x);", halted(0, 6, 9)},
		{"k(&g); print(g);", halted(0, 7, 5)},
		{"k(&a[2i32]); print(a[2i32]);", halted(0, 9, 5)},
		{"k(&v.x); print(v.x);", halted(0, 7, 5)},
		{"g = 1u8; g = k(&a[0i32]); print(g); print(a[0i32]);", halted(0, 3+1+1+2+3+2+3, 0, 5)},
		{"g = 1u8; g = k(&g); print(g);", halted(0, 3+1+1+1+3+2, 0)},
		{"return 3i32;", halted(3, 2)},
		{"return #-2147483648i32;", halted(-2147483648, 2)},
		{"return 3i32; print(1i32);", halted(3, 2)},
		{"if (1i32) { return 3i32; } print(1i32);", halted(3, 4)},
		{"if (0i32) { } else { return 3i32; } print(1i32);", halted(3, 4)},
		{"for i = 4i32 to 9i32 { return i; } print(1i32);", halted(4, 4)},
		{"for i = 4i32 to 9i32 { for j = 0i32 to 3i32 { if (j) { return i + j; } } print(i); } print(1i32);", halted(5, 1+1+1+1+2+1+2+4)},
		{"for i = 4i32 to 9i32 { if (i == 6i32) { return i; } print(i); }", halted(6, 1+1+4+2+1+4+2+1+4+2, 4, 5)},
	}))
}

// P9.1: the steps and the numbers of each kind of expression.
func TestExpressions(t *testing.T) {
	judge(t, mains("u8 a[3i32]; i16 m;", []told{
		{"print(5u8);", halted(0, 2, 5)},
		{"print((u8)300i16);", halted(0, 3, 44)},
		{"print((i8)200u8);", halted(0, 3, -56)},
		{"print((u32)#-1i8);", halted(0, 3, 4294967295)},
		{"print((i32)(u8)#-1i8);", halted(0, 4, 255)},
		{"print(-5i8);", halted(0, 3, -5)},
		{"print(-5u8);", halted(0, 3, 251)},
		{"print(~5u8);", halted(0, 3, 250)},
		{"print(~5i8);", halted(0, 3, -6)},
		{"print(!5u8);", halted(0, 3, 0)},
		{"print(!0u8);", halted(0, 3, 1)},
		{"print(250u8 + 10u8);", halted(0, 4, 4)},
		{"print(250u16 + 10u16);", halted(0, 4, 260)},
		{"print(3u8 - 4u8);", halted(0, 4, 255)},
		{"print(3i8 - 4i8);", halted(0, 4, -1)},
		{"print(65536u32 * 65537u32);", halted(0, 4, 65536)},
		{"print(#-7i8 / 2i8);", halted(0, 4, -3)},
		{"print(#-7i8 % 2i8);", halted(0, 4, -1)},
		{"print(#-7i8 & 12i8);", halted(0, 4, 8)},
		{"print(1u8 | 12u8);", halted(0, 4, 13)},
		{"print(9u8 ^ 12u8);", halted(0, 4, 5)},
		{"print(129u8 << 1u8);", halted(0, 4, 2)},
		{"print(1u8 << 7i32);", halted(0, 4, 128)},
		{"print(#-3i8 >> 1u32);", halted(0, 4, -2)},
		{"print(200u8 < 100u8);", halted(0, 4, 0)},
		{"print(100u8 < 200u8);", halted(0, 4, 1)},
		{"print(3u8 <= 3u8);", halted(0, 4, 1)},
		{"print(3u8 > 3u8);", halted(0, 4, 0)},
		{"print(3u8 >= 3u8);", halted(0, 4, 1)},
		{"print(#-1i8 == #-1i8);", halted(0, 4, 1)},
		{"print(#-1i8 != #-1i8);", halted(0, 4, 0)},
		{"print((1u8 < 2u8) + 2147483646i32);", halted(0, 6, 2147483647)},
		{"print(0u8 && 7u8);", halted(0, 3, 0)},
		{"print(7u8 && 0u8);", halted(0, 4, 0)},
		{"print(7u8 && #-2i8);", halted(0, 4, 1)},
		{"print(7u8 || 5u8);", halted(0, 3, 1)},
		{"print(0u8 || #-5i8);", halted(0, 4, 1)},
		{"print(0u8 || 0i16);", halted(0, 4, 0)},
		{"print(1i8 ? 5u8 : 6u8);", halted(0, 4, 5)},
		{"print(0i8 ? 5u8 : 6u8);", halted(0, 4, 6)},
		{"print(#-1i8 ? 5u8 + 1u8 : 6u8);", halted(0, 6, 6)},
		{"print(m);", halted(0, 2, 0)},
		{"print(a[m]);", halted(0, 3, 0)},
		{"print(a[a[a[2i8]]]);", halted(0, 5, 0)},
		{"m = 2i16; a[m] = 1u8; a[a[m]] = 2u8; print(a[a[a[m]]]);", halted(0, 3+4+5+5, 1)},
	}))
}

// trapping expressions of each kind of trap, all of i32, with the steps that they take.
var trapping = []struct {
	text  string
	steps int
	trap  api.Trap
}{
	{"(2147483647i32 + 1i32)", 3, api.TrapOver},
	{"(-low)", 2, api.TrapOver},
	{"(low / #-1i32)", 3, api.TrapOver},
	{"(1i32 / zero)", 3, api.TrapZero},
	{"(1i32 % zero)", 3, api.TrapZero},
	{"(1i32 << 32u8)", 3, api.TrapShift},
	{"(1i32 >> #-1i8)", 3, api.TrapShift},
	{"arr[4i32]", 2, api.TrapIndex},
	{"arr[#-1i8]", 2, api.TrapIndex},
}

// P9.1: each trap at each place where an expression stands, alone: how many steps were taken, and what was printed ahead of it.
func TestTraps(t *testing.T) {
	const ahead = "struct s { i32 x; } i32 arr[4i32]; i32 low = #-2147483648i32; i32 zero; u8 b[2i32]; struct s v; i32 f(i32 x, i32 y) { return x; } i32 k(u8 *p, i32 x) { print(x); return T; } i32 l() { print(8u8); T1 return 0i32; }"
	for _, place := range []struct {
		text  string
		steps int // ahead of those of the trapping expression, which stands where E is
		trace []int64
	}{
		{"i32 x = E;", 1, nil},
		{"zero = E;", 2, nil},
		{"arr[1i32] = E;", 3, nil},
		{"v.x = E;", 2, nil},
		{"arr[E] = 1i32;", 2, nil},
		{"if (E) { print(1u8); }", 1, nil},
		{"if (1u8) { print(E); }", 3, nil},
		{"if (0u8) { } else { print(E); }", 3, nil},
		{"for i = 0i32 to 3i32 { print(i); print(E); }", 5, []int64{0}},
		{"print(7u8); print(E);", 3, []int64{7}},
		{"return E;", 1, nil},
		{"f(E, 1i32);", 1, nil},
		{"f(1i32, E);", 2, nil},
		{"zero = f(1i32, E);", 3, nil},
		{"arr[E] = f(1i32, 2i32);", 2, nil},
		{"k(&b[E], 1i32);", 2, nil},
		{"k(&b[1u8], E);", 3, nil},
		{"print(-E);", 2, nil},
		{"print(!E);", 2, nil},
		{"print((u8)E);", 2, nil},
		{"print(E + 1i32);", 2, nil},
		{"print(1i32 + E);", 3, nil},
		{"print(E == 1i32);", 2, nil},
		{"print(1u8 << E);", 3, nil},
		{"print(E && 1i32);", 2, nil},
		{"print(1u8 && E);", 3, nil},
		{"print(E || 1i32);", 2, nil},
		{"print(0u8 || E);", 3, nil},
		{"print(E ? 1u8 : 2u8);", 2, nil},
		{"print(1u8 ? E : 2i32);", 3, nil},
		{"print(0u8 ? 1i32 : E);", 3, nil},
		{"print(arr[E]);", 2, nil},
		{"print(4u8); zero = k(&b[0i32], 2i32);", 2 + 2 + 2 + 1 + 2 + 1, []int64{4, 2}},
		{"print(4u8); zero = l();", 2 + 2 + 2 + 1, []int64{4, 8}},
	} {
		for _, e := range trapping {
			text := strings.ReplaceAll(ahead+" i32 main() { "+place.text+" print(9u8); return 5i32; }", "E", e.text)
			text = strings.Replace(text, "T1", "print("+e.text+");", 1)
			text = strings.Replace(text, "T", e.text, 1)
			ends(t, text, 1000, trapped(e.trap, place.steps+e.steps, place.trace...))
			hold(t, text, read(t, text), each)
		}
	}
}

// P9.1: nothing that isn't begun traps, or takes steps.
func TestNotBegun(t *testing.T) {
	const ahead = "i32 arr[4i32]; i32 low = #-2147483648i32; i32 zero; u8 f() { return 1u8; print(E); }"
	for _, place := range []struct {
		text string
		want api.Outcome
	}{
		{"print(0i8 && E);", halted(0, 3, 0)},
		{"print(2i8 || E);", halted(0, 3, 1)},
		{"print(0i8 && 1i8 / 0i8 || E || 1u8 ? 3u8 : 4u8);", api.Outcome{}},
		{"print(0i8 ? E : 5i32);", halted(0, 4, 5)},
		{"print(1i8 ? 5i32 : E);", halted(0, 4, 5)},
		{"if (0i8) { print(E); }", halted(0, 2)},
		{"if (1i8) { } else { print(E); }", halted(0, 2)},
		{"for i = 3i32 to 3i32 { print(E); }", halted(0, 1)},
		{"return 1i32; print(E);", halted(1, 2)},
		{"for i = 3i32 to 5i32 { return 1i32; print(E); }", halted(1, 4)},
		{"f();", halted(0, 3)},
	} {
		for _, e := range trapping {
			want := place.want
			if !want.Halted { // E is begun there, behind what isn't
				want = trapped(e.trap, 6+e.steps)
			}
			ends(t, strings.ReplaceAll(ahead+" i32 main() { "+place.text+" }", "E", e.text), 1000, want)
		}
	}
}

// P9.1: of two that could trap, the one that is begun first, and ended first, does.
func TestTrapOrder(t *testing.T) {
	const ahead = "i8 a[2i32]; i8 z; u8 b[2i32]; i8 f(i8 x, i8 y) { return x / z; } i8 k(u8 *p, i8 x, u8 *q) { *p = 1u8; return 1i8 / z; }"
	judge(t, mains(ahead, []told{
		{"a[2i32] = 1i8 / z;", trapped(api.TrapIndex, 3)},
		{"a[1i8 / z] = 127i8 + 1i8;", trapped(api.TrapZero, 5)},
		{"a[a[2i32]] = 1i8 / z;", trapped(api.TrapIndex, 4)},
		{"a[#-1i32] = f(127i8 + 1i8, 1i8 / z);", trapped(api.TrapIndex, 3)},
		{"a[#-1i32] = f(1i8, 1i8);", trapped(api.TrapIndex, 3)},
		{"a[1i32] = f(127i8 + 1i8, 1i8 / z);", trapped(api.TrapOver, 6)},
		{"f(1i8 / z, 127i8 + 1i8);", trapped(api.TrapZero, 4)},
		{"f(1i8 << 8u8, 127i8 + 1i8);", trapped(api.TrapShift, 4)},
		{"f(1i8, 127i8 + 1i8);", trapped(api.TrapOver, 5)},
		{"f(1i8, 1i8);", trapped(api.TrapZero, 7)},
		{"k(&b[2i32], 127i8 + 1i8, &b[0i32]);", trapped(api.TrapIndex, 3)},
		{"k(&b[0i32], 127i8 + 1i8, &b[2i32]);", trapped(api.TrapOver, 6)},
		{"k(&b[0i32], 1i8, &b[2i32]);", trapped(api.TrapIndex, 6)},
		{"k(&b[0i32], 1i8, &b[1i32]);", trapped(api.TrapZero, 1+2+1+2+3+1+3)},
		{"print((127i8 + 1i8) / z);", trapped(api.TrapOver, 5)},
		{"print((1i8 / z) << 9u8);", trapped(api.TrapZero, 5)},
		{"print(1i8 << (1i8 / z));", trapped(api.TrapZero, 6)},
		{"print((127i8 + 1i8) - (1i8 / z));", trapped(api.TrapOver, 5)},
		{"print((1i8 / z) - (127i8 + 1i8));", trapped(api.TrapZero, 5)},
		{"print(-(1i8 / z));", trapped(api.TrapZero, 5)},
		{"print(a[1i8 / z]);", trapped(api.TrapZero, 5)},
		{"print(a[5i8] / z);", trapped(api.TrapIndex, 4)},
		{"print((1i8 / z) && a[5i8]);", trapped(api.TrapZero, 5)},
		{"print(1i8 && (a[5i8] || (1i8 / z)));", trapped(api.TrapIndex, 6)},
		{"print((1i8 / z) ? a[5i8] : a[6i8]);", trapped(api.TrapZero, 5)},
		{"if (1i8 / z) { print(a[5i8]); } else { print(a[6i8]); }", trapped(api.TrapZero, 4)},
		{"i8 x = 1i8 / z; i8 y = a[5i8];", trapped(api.TrapZero, 4)},
		{"print(#-128i8 / z);", trapped(api.TrapZero, 4)},
	}))
}

// P9.1: every operation of every type, at the numbers at which it comes to trap, as ints says with the type of the first kid.
func TestOperations(t *testing.T) {
	edges := func(ty byte) []int64 {
		s := ints.Span(ty)
		list := []int64{0, 1, 2, s.Low, s.Low + 1, s.High, s.High - 1}
		if s.Low < 0 {
			list = append(list, -1, -2)
		}
		return list
	}
	check := func(e api.Node, v int64, trap api.Trap, steps int) {
		t.Helper()
		n := program(nil, api.Node{Kind: api.Print, Kids: []api.Node{e}})
		want := halted(0, steps, v)
		if trap != api.NoTrap {
			want = trapped(trap, steps)
		}
		runs(t, fmt.Sprint(e), n, 100, want)
	}
	seen := map[string]bool{}
	for ty := range byte(6) {
		for _, a := range edges(ty) {
			for op := api.Neg; op <= api.Bang; op++ {
				v, trap := ints.Un(op, ty, a)
				check(api.Node{Kind: api.Unary, Op: op, Kids: []api.Node{lit(ty, a)}}, v, trap, 3)
				seen[fmt.Sprint("un", op, ty, trap)] = true
			}
			for op := api.Add; op <= api.Ne; op++ {
				for _, b := range edges(ty) {
					v, trap := ints.Do(op, ty, a, b)
					check(binary(op, lit(ty, a), lit(ty, b)), v, trap, 4)
					seen[fmt.Sprint(op, ty, trap)] = true
				}
			}
			for _, op := range []byte{api.Shl, api.Shr} { // the count is of any type, and isn't wrapped
				for other := range byte(6) {
					for _, b := range append(edges(other), 7, 8, 15, 16, 31, 32) {
						v, trap := ints.Do(op, ty, a, b)
						check(binary(op, lit(ty, a), lit(other, b)), v, trap, 4)
					}
				}
			}
		}
	}
	for ty := range byte(6) {
		for _, op := range []byte{api.Add, api.Sub, api.Mul, api.Div, api.Rem, api.Shl} {
			if over := seen[fmt.Sprint(op, ty, api.TrapOver)]; over != ints.Signed(ty) {
				t.Errorf("TrapOver of the operation %d, type %d: %v", op, ty, over)
			}
		}
		for _, op := range []byte{api.Div, api.Rem} {
			if !seen[fmt.Sprint(op, ty, api.TrapZero)] {
				t.Errorf("no TrapZero of the operation %d, type %d", op, ty)
			}
		}
	}
}

func runs(t *testing.T, what string, n api.Node, fuel int, want api.Outcome) {
	t.Helper()
	got, at, e := Run(n, fuel)
	if at != 0 || e != api.OK || !same(got, want) {
		t.Errorf("%.1000s, with %d steps: %v, %d, %d; want %v", what, fuel, got, at, e, want)
	}
}

// program: items, and a main of statements.
func program(items []api.Node, stats ...api.Node) api.Node {
	main := api.Node{Kind: api.Func, Name: "main", Type: whole(api.I32), Kids: []api.Node{{Kind: api.Block, Kids: stats}}}
	return api.Node{Kind: api.Prog, Kids: append(slices.Clone(items), main)}
}

// P9.1: each place of an array of each length, by numbers of each type; and those that there are not.
func TestPlaces(t *testing.T) {
	for length := 1; length <= api.MaxArray; length++ {
		array := api.Node{Kind: api.Global, Name: "a", Type: api.Type{Kind: api.TArray, Int: api.I16, N: length}}
		for ty := range byte(6) {
			s := ints.Span(ty)
			for _, at := range []int64{s.Low, -2, -1, 0, 1, int64(length) / 2, int64(length) - 1, int64(length), int64(length) + 1, 127, s.High} {
				if !ints.Fits(ty, at) {
					continue
				}
				place := api.Node{Kind: api.Index, Name: "a", Kids: []api.Node{lit(ty, at)}}
				write := program([]api.Node{array}, api.Node{Kind: api.Set, Kids: []api.Node{place, lit(api.I16, -5)}}, api.Node{Kind: api.Print, Kids: []api.Node{place}})
				reads := program([]api.Node{array}, api.Node{Kind: api.Print, Kids: []api.Node{place}})
				what := fmt.Sprintf("the place %d, of type %d, of %d", at, ty, length)
				if at < 0 || at >= int64(length) {
					runs(t, what, write, 100, trapped(api.TrapIndex, 3))
					runs(t, what, reads, 100, trapped(api.TrapIndex, 3))
					continue
				}
				runs(t, what, write, 100, halted(0, 7, -5))
				runs(t, what, reads, 100, halted(0, 3, 0))
			}
		}
	}
}

// Cells stand apart: each holds what was put there last, and no other one changes.
func TestCells(t *testing.T) {
	judge(t, []told{
		{"struct s { u8 x; u8 y; u8 z; } struct s v; struct s w; u8 a[3i32]; u8 b; i32 main() { " +
			"v.x = 1u8; v.y = 2u8; v.z = 3u8; w.x = 4u8; w.z = 6u8; a[0i32] = 7u8; a[2i32] = 9u8; b = 10u8; struct s v2; u8 c[2i32]; v2.y = 11u8; c[1i32] = 12u8;" +
			"print(v.x); print(v.y); print(v.z); print(w.x); print(w.y); print(w.z); print(a[0i32]); print(a[1i32]); print(a[2i32]); print(b); print(v2.x); print(v2.y); print(v2.z); print(c[0i32]); print(c[1i32]); }",
			halted(0, 3*5+4*2+3+2+3+4+10*2+3*3+2*3, 1, 2, 3, 4, 0, 6, 7, 0, 9, 10, 0, 11, 0, 0, 12)},
	})
}

// Globals begin with their first numbers, at each run, without steps.
func TestGlobals(t *testing.T) {
	judge(t, []told{
		{"u8 a = 255u8; i8 b = #-128i8; u32 c = 4294967295u32; i32 d; u16 e[2i32]; i16 f = 0i16; i32 main() { print(a); print(b); print(c); print(d); print(e[1i32]); print(f); }",
			halted(0, 13, 255, -128, 4294967295, 0, 0, 0)},
		{"i32 f() { return 2i32; } u8 a = 3u8; i32 main() { print(a); }", halted(0, 2, 3)},
		{"u8 a = 3u8; i32 f() { print(a); a = 4u8; } i32 main() { f(); f(); a = 5u8; f(); }", halted(0, 3*(1+2+3)+3, 3, 4, 5)},
		{"u8 a = 3u8; i32 main() { print(a); u8 a = 4u8; print(a); }", halted(0, 6, 3, 4)},
	})
}

// Locals are new whenever their statement is begun, and names stand for the innermost one.
func TestLocals(t *testing.T) {
	judge(t, []told{
		{"i32 main() { for i = 0i32 to 3i32 { u8 x; print(x); x = 7u8; u8 a[2i32]; print(a[1i32]); a[1i32] = 8u8; } }", halted(0, 1+3*(1+1+2+3+1+3+4), 0, 0, 0, 0, 0, 0)},
		{"struct s { u8 x; u8 y; } i32 main() { for i = 0i32 to 2i32 { struct s v; print(v.y); v.y = 7u8; print(v.y); } }", halted(0, 1+2*(1+1+2+3+2), 0, 7, 0, 7)},
		{"i32 main() { u8 x = 1u8; if (1i32) { u8 x = x + 1u8; print(x); x = 9u8; } print(x); }", halted(0, 2+2+4+2+3+2, 2, 1)},
		{"i32 main() { i32 i = 5i32; for i = 0i32 to 2i32 { print(i); i32 i = i + 10i32; print(i); } print(i); }", halted(0, 2+1+2*(1+2+4+2)+2, 0, 10, 1, 11, 5)},
		{"i32 main() { for i = 0i32 to 2i32 { for i = 5i32 to 7i32 { print(i); } print(i); } }", halted(0, 1+2*(1+1+2*3+2), 5, 6, 0, 5, 6, 1)},
		{"u8 x = 9u8; u8 f(u8 x) { x = x + 1u8; print(x); return x; } i32 main() { u8 y = 3u8; y = f(y); print(x); print(y); }", halted(0, 2+1+1+1+(5+2+2)+4, 4, 9, 4)},
		{"i32 f(i32 n) { i32 s; for i = 0i32 to 3i32 { s = s + n; if (i == n) { return s; } } return 100i32; } i32 main() { i32 x; for n = 0i32 to 4i32 { x = f(n); print(x); } }", halted(0, 2+4*(1+2+3+2)+10+20+30+30+4*2, 0, 2, 6, 100)},
	})
}

// Calls: what is answered, and refs to all that can be written.
func TestCalls(t *testing.T) {
	judge(t, []told{
		{"u8 f() { } i32 main() { u8 x = 5u8; x = f(); print(x); }", halted(0, 6, 0)},
		{"u8 f() { if (0i32) { return 3u8; } } i32 main() { u8 x = 5u8; x = f(); print(x); }", halted(0, 8, 0)},
		{"u8 f() { for i = 0i32 to 3i32 { return 3u8; } } i32 main() { u8 x = 5u8; x = f(); print(x); }", halted(0, 10, 3)},
		{"i16 f(i16 a, i16 b, i16 c, i16 d, i16 e, i16 g) { print(a); print(b); print(c); print(d); print(e); print(g); } i32 main() { f(1i16, 2i16, 3i16, 4i16, 5i16, 6i16); }", halted(0, 19, 1, 2, 3, 4, 5, 6)},
		{"u8 f(u8 *p, u8 *q) { *p = 1u8; print(*q); *q = 2u8; print(*p); } i32 main() { u8 x = 7u8; f(&x, &x); print(x); }", halted(0, 2+1+2+10+2, 1, 2, 2)},
		{"u8 f(u8 *p) { *p = *p + 1u8; } u8 g(u8 *p) { f(&*p); f(&*p); } u8 h = 3u8; i32 main() { u8 a[2i32]; g(&a[1i32]); print(a[0i32]); print(a[1i32]); g(&h); print(h); }",
			halted(0, 1+(1+2)+2*(2+5)+3+3+(1+1)+2*(2+5)+2, 0, 2, 5)},
		{"struct s { u8 x; u8 y; } u8 f(u8 *p) { *p = 6u8; return 5u8; } i32 main() { struct s v; v.x = f(&v.y); print(v.x); print(v.y); }", halted(0, 1+3+5+4, 5, 6)},
		{"u8 f(u8 *p) { *p = 2u8; return 5u8; } i32 main() { u8 i; u8 a[3i32]; a[i] = f(&i); print(a[0i32]); print(a[2i32]); print(i); }", halted(0, 2+1+2+1+5+8, 5, 0, 2)},
		{"u8 f(u8 *p, u8 x) { *p = 2u8; print(x); } i32 main() { u8 i = 1u8; f(&i, i); print(i); }", halted(0, 2+3+5+2, 1, 2)},
		{"u8 f(u8 x, u8 *p) { x = 2u8; print(*p); } i32 main() { u8 i = 1u8; f(i, &i); print(i); }", halted(0, 2+3+5+2, 1, 1)},
		{"u8 f(u8 *p) { u8 x = 3u8; *p = x; } i32 main() { u8 x; u8 y; f(&y); print(x); print(y); }", halted(0, 2+2+5+4, 0, 3)},
		{"i8 f(i8 x) { return -x; } i8 g(i8 x) { i8 y; y = f(x); y = f(y); return y + x; } i32 main() { i8 z; z = g(#-5i8); print(z); return (i32)z; }", halted(-10, 1+3+1+2*(3+3)+4+2+3, -10)},
		{"u8 f(u8 *p) { for i = 0i32 to 2i32 { *p = *p + 1u8; } } i32 main() { for i = 5i32 to 7i32 { u8 x = 9u8; f(&x); print(x); print(i); } }", halted(0, 1+2*(1+2+2+1+2*6+4), 11, 5, 11, 6)},
	})
}

// Memory is given back: blocks, rounds and calls by the thousand take no more than one of them.
func TestMemoryIsGivenBack(t *testing.T) {
	arrays := func(count int) string {
		var s strings.Builder
		for i := range count {
			fmt.Fprintf(&s, "u8 a%d[16i32];", i)
		}
		return s.String()
	}
	rounds := func(body string) string {
		return "for i = 0i32 to 16i32 { for j = 0i32 to 16i32 { " + body + " } }"
	}
	lets := arrays(300) + "print(a299[15i32]); a299[15i32] = 1u8; a7[3i32] = 2u8; "
	const own = 300 + 3 + 4 + 4
	zeros := make([]int64, 256)
	ends(t, "i32 main() { "+rounds(lets)+" }", api.MaxFuel, halted(0, 1+16*2+256*(1+own), zeros...))
	ends(t, "i32 main() { "+rounds("if (1i32) { "+lets+" }")+" }", api.MaxFuel, halted(0, 1+16*2+256*(1+2+own), zeros...))
	ends(t, "i32 f() { "+lets+" } i32 main() { "+rounds("f();")+" }", api.MaxFuel, halted(0, 1+16*2+256*(2+own), zeros...))
	ends(t, "i32 f() { "+lets+" return 1i32; } i32 main() { "+rounds("f();")+" }", api.MaxFuel, halted(0, 1+16*2+256*(2+own+2), zeros...))
	ends(t, "i32 f() { if (1i32) { for i = 0i32 to 1i32 { "+lets+" return 1i32; } } } i32 main() { "+rounds("f();")+" }", api.MaxFuel, halted(0, 1+16*2+256*(2+2+2+own+2), zeros...))
	ends(t, "u8 f(u8 x, u8 *p) { *p = *p + x; } i32 main() { u8 s; "+rounds(rounds("f(1u8, &s); for k = 0i32 to 1i32 { }"))+" print(s); }", api.MaxFuel,
		halted(0, 1+1+16*2+256*(1+1+16*2+256*(1+3+5+2))+2, 0))
	// As many cells at a time as a program can have: all globals, or all locals of functions that are in one another.
	full := 3990
	ends(t, arrays(full)+"i32 main() { a0[15i32] = 1u8; print(a3989[15i32]); }", 100, halted(0, 7, 0))
	ends(t, "i32 main() { "+arrays(full)+"}", api.MaxFuel, halted(0, full))
	ends(t, "i32 f() { "+arrays(1300)+"} i32 g() { "+arrays(1300)+"f(); } i32 main() { "+arrays(1300)+"g(); f(); }", api.MaxFuel, halted(0, 4*1300+3))
	// As many calls in one another as there can be.
	var chain strings.Builder
	chain.WriteString("i32 f0(){ return 5i32; }")
	last := 0
	for last < 660 {
		last++
		fmt.Fprintf(&chain, "i32 f%d(){ x = f%d(); return x; }", last, last-1)
	}
	ends(t, "i32 x; "+strings.Replace(chain.String(), "f0(){", "f0(){ x = 1i32;", 1)+fmt.Sprintf("i32 main(){ x = f%d(); return x; }", last), api.MaxFuel, halted(5, 4*(last+1)+5))
}

// P9.1, P9.2: a run is spent at each of its steps: nothing is done any more; with one step more it goes on.
func TestEachStep(t *testing.T) {
	const text = "struct s { i8 x; u8 y; } u8 g = 3u8; i8 a[3i32]; struct s v; " +
		"i8 f(i8 p, u8 *q) { *q = *q + g; if (p > 1i8) { print(*q); return p; } else { print(p); } } " +
		"i32 main() { i8 x = -1i8; u8 y[2i32]; for i = 0i32 to 3i32 { a[i] = f(x, &y[1i32]); x = x + (i8)i + 1i8; print(x ? a[i] : v.x); } " +
		"v.y = g; f(~x, &v.y); print(!x || v.y && 1u8 << 3i8 == 8u8); print(a[(u8)0i32] * a[2i32]); E return (i32)x; }"
	for _, end := range []string{"", "print(1u8 / v.x == 0u8);", "print(a[x]);", "print(100i8 * x);", "print(1u8 >> 9u8);"} {
		s := strings.Replace(text, "E", strings.Replace(end, "v.x", "(u8)v.x", 1), 1)
		n := read(t, s)
		o := hold(t, s, n, each)
		if o.Steps < 100 || len(o.Trace) < 8 || o.Halted != (end == "") {
			t.Errorf("%s: %v", end, o)
		}
		before := api.Outcome{}
		for fuel := range o.Steps {
			now, _, _ := Run(n, fuel)
			if !now.Fuel || now.Halted || now.Exit != 0 || now.Trap != api.NoTrap || now.Steps != fuel || len(now.Trace) < len(before.Trace) || len(now.Trace) > len(before.Trace)+1 {
				t.Errorf("with %d steps %v, behind %v", fuel, now, before)
			}
			before = now
		}
	}
}

// endless: a program with more steps than may be asked for.
func endless(t *testing.T) api.Node {
	s := "n = n + 1u32;"
	for i := range 6 {
		s = fmt.Sprintf("for i%d = 0i32 to 16i32 { %s }", i, s)
	}
	return read(t, "u32 n; i32 main() { "+s+" print(n); return 1i32; }")
}

// exactly: a program of that many steps, of loops in one another and declarations.
func exactly(t *testing.T, steps int) api.Node {
	var s strings.Builder
	for steps > 16 {
		loop, taken := "", 0
		for more := 17; more <= steps; more = 1 + 16*(1+taken) {
			loop, taken = "for i = 0i32 to 16i32 { "+loop+" }", more
		}
		s.WriteString(loop)
		steps -= taken
	}
	for i := range steps {
		fmt.Fprintf(&s, "u8 x%d; ", i)
	}
	return read(t, "i32 main() { "+s.String()+"}")
}

// P9.1: the least and the greatest fuel, and those beyond.
func TestFuel(t *testing.T) {
	small := read(t, "i32 main() { print(1i32); return 7i32; }")
	none := read(t, "i32 main() { }")
	runs(t, "none", none, 0, halted(0, 0))
	runs(t, "small", small, 0, spent(0))
	runs(t, "small", small, 1, spent(1))
	runs(t, "small", small, api.MaxFuel, halted(7, 4, 1))
	runs(t, "small", small, api.MaxFuel-1, halted(7, 4, 1))
	great := endless(t)
	runs(t, "endless", great, api.MaxFuel, spent(api.MaxFuel))
	runs(t, "endless", great, api.MaxFuel-1, spent(api.MaxFuel-1))
	runs(t, "as many as may be", exactly(t, api.MaxFuel), api.MaxFuel, halted(0, api.MaxFuel))
	runs(t, "one fewer", exactly(t, api.MaxFuel), api.MaxFuel-1, spent(api.MaxFuel-1))
	runs(t, "one beyond", exactly(t, api.MaxFuel+1), api.MaxFuel, spent(api.MaxFuel))
	for _, n := range []api.Node{small, none, great} {
		for _, fuel := range []int{-1, -2, math.MinInt32, math.MinInt, api.MaxFuel + 1, api.MaxFuel + 2, math.MaxInt32, math.MaxInt} {
			refused(t, fmt.Sprint("fuel ", fuel), n, fuel, 0, api.ErrArg)
		}
	}
}

// refused asks that nothing is told but an error and a node.
func refused(t *testing.T, what string, n api.Node, fuel, at int, e api.Errno) {
	t.Helper()
	o, gotAt, got := Run(n, fuel)
	if got != e || gotAt != at || !same(o, api.Outcome{}) || o.Trace != nil {
		t.Errorf("%.500s: %v, %d, %d; want %d at %d", what, o, gotAt, got, e, at)
	}
}

// P9.1: a program that isn't right isn't run; the error of the fuel goes first, since its number is the least.
func TestErrors(t *testing.T) {
	deep := lit(api.U8, 1)
	for range api.MaxDepth {
		deep = api.Node{Kind: api.Unary, Op: api.Not, Kids: []api.Node{deep}}
	}
	ring := make([]api.Node, 1)
	ring[0] = api.Node{Kind: api.Prog, Kids: ring}
	for _, r := range []struct {
		what string
		n    api.Node
		at   int
		e    api.Errno
	}{
		{"nothing", api.Node{}, 0, api.ErrForm},
		{"no main", read(t, "i32 f() { }"), 0, api.ErrForm},
		{"a name", read(t, "i32 main() { x = 1i32; }"), 4, api.ErrName},
		{"a type", read(t, "i32 main() { print(1i32 + 1u8); }"), 6, api.ErrType},
		{"a call", read(t, "i32 main() { main(); }"), 3, api.ErrCall},
		{"twice", read(t, "u8 x; u8 x; i32 main() { }"), 2, api.ErrTwice},
		{"rounds", read(t, "i32 main() { for i = 0i32 to 17i32 { } }"), 3, api.ErrArg},
		{"behind a return", read(t, "i32 main() { return 1i32; print(x); }"), 6, api.ErrName},
		{"too deep", program(nil, api.Node{Kind: api.Print, Kids: []api.Node{deep}}), 0, api.ErrLong},
		{"too many", program(nil, slices.Repeat([]api.Node{{Kind: api.Block}}, api.MaxNodes)...), 0, api.ErrLong},
		{"a ring", ring[0], 0, api.ErrLong},
		{"another kind", program(nil, api.Node{Kind: 77}), 3, api.ErrForm},
	} {
		if at, e := types.Check(r.n); at != r.at || e != r.e {
			t.Errorf("%s: Check says %d at %d", r.what, e, at)
		}
		for _, fuel := range []int{0, 100, api.MaxFuel} {
			refused(t, r.what, r.n, fuel, r.at, r.e)
		}
		for _, fuel := range []int{-1, math.MinInt, api.MaxFuel + 1, math.MaxInt} {
			refused(t, r.what, r.n, fuel, 0, api.ErrArg)
		}
	}
}

// Trees as great and as deep as may be are run.
func TestGreatTrees(t *testing.T) {
	deep := lit(api.U8, 1)
	for range api.MaxDepth - 5 {
		deep = api.Node{Kind: api.Unary, Op: api.Not, Kids: []api.Node{deep}}
	}
	n := program(nil, api.Node{Kind: api.Print, Kids: []api.Node{deep}})
	if tree.Depth(n) != api.MaxDepth {
		t.Fatal(tree.Depth(n))
	}
	runs(t, "deep", n, 100, halted(0, api.MaxDepth-3, 254))
	stats := slices.Repeat([]api.Node{{Kind: api.Print, Kids: []api.Node{lit(api.U8, 3)}}}, (api.MaxNodes-4)/2)
	stats = append(stats, api.Node{Kind: api.Let, Name: "x", Type: whole(api.U8)})
	n = program(nil, stats...)
	if tree.Size(n) != api.MaxNodes {
		t.Fatal(tree.Size(n))
	}
	runs(t, "great", n, api.MaxNodes, halted(0, api.MaxNodes-3, slices.Repeat([]int64{3}, (api.MaxNodes-4)/2)...))
}

// spare gives all lists of a tree spare room with nodes in it.
func spare(n api.Node) api.Node {
	list := make([]api.Node, 0, len(n.Kids)+2)
	for _, kid := range n.Kids {
		list = append(list, spare(kid))
	}
	n.Kids = list
	room := list[:cap(list)]
	for i := len(list); i < len(room); i++ {
		room[i] = api.Node{Kind: 77, Name: "room"}
	}
	return n
}

// textOf tells a tree with the spare room of its lists.
func textOf(n api.Node) string {
	s := fmt.Sprintf("<%d %d %v %d %d %q %q %d", n.Kind, n.Op, n.Type, n.N, n.M, n.Name, n.Field, len(n.Kids))
	for _, kid := range n.Kids[:cap(n.Kids)] {
		s += textOf(kid)
	}
	return s + ">"
}

// ruin writes over all memory of a tree.
func ruin(n *api.Node) {
	for i := range n.Kids[:cap(n.Kids)] {
		ruin(&n.Kids[:cap(n.Kids)][i])
	}
	*n = api.Node{Kind: 99, Name: "ruined"}
}

// Memory: a program isn't changed, nor kept; a trace is new; P2: the same run ends the same again.
func TestMemory(t *testing.T) {
	for _, s := range []string{
		"u8 g = 3u8; i32 main() { u8 a[2i32]; for i = 0i32 to 5i32 { g = g + 1u8; print(g); } return 4i32; }",
		"i32 main() { print(1u8); print(2u8); print(1u8 / 0u8); }",
		"i32 main() { print(1u8); x = 3u8; }",
	} {
		n := spare(read(t, s))
		text := textOf(n)
		for _, fuel := range []int{100, 5, 0, -1} {
			first, at, e := Run(n, fuel)
			kept := slices.Clone(first.Trace)
			second, at2, e2 := Run(n, fuel)
			if !same(first, second) || at != at2 || e != e2 {
				t.Errorf("%s: %v, then %v", s, first, second)
			}
			room := first.Trace[:cap(first.Trace)]
			for i := range room {
				room[i] = 99
			}
			third, _, _ := Run(n, fuel)
			if !slices.Equal(second.Trace, kept) || !slices.Equal(third.Trace, kept) {
				t.Errorf("%s: two traces share memory", s)
			}
			if textOf(n) != text {
				t.Fatalf("%s: the program is changed", s)
			}
			lost := spare(read(t, s))
			fourth, _, _ := Run(lost, fuel)
			ruin(&lost)
			if !slices.Equal(fourth.Trace, kept) {
				t.Errorf("%s: the program is kept", s)
			}
		}
	}
}

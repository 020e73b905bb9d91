package reduce_test

import (
	"math/rand"
	"strings"
	"testing"

	"burin/api"
	"burin/gen"
	"burin/oracle"
	"burin/parse"
	"burin/reduce"
	"burin/show"
	"burin/tree"
)

// The signatures that the chapter lists.
var (
	_ func(api.Node) ([]api.Node, api.Errno)     = reduce.Candidates
	_ func(api.Node, byte, byte) (api.Node, int) = reduce.Reduce
)

// all: the bits of all passes.
const all = oracle.Inline | oracle.Fold | oracle.Prop | oracle.Cse | oracle.Dead | oracle.Flow

func read(t *testing.T, s string) api.Node {
	t.Helper()
	n, at, e := parse.Parse(s)
	if e != api.OK {
		t.Fatalf("Parse(%q): %d at %d", s, e, at)
	}
	return n
}

func text(t *testing.T, n api.Node) string {
	t.Helper()
	s, e := show.Text(n)
	if e != api.OK {
		t.Fatalf("Text(%+v): %d", n, e)
	}
	return s
}

// drawn: a program of at most so many nodes.
func drawn(t *testing.T, r *rand.Rand, size int) api.Node {
	t.Helper()
	list := make([]uint64, 20+r.Intn(600))
	for i := range list {
		list[i] = r.Uint64() >> r.Intn(64)
	}
	n, _, e := gen.Make(gen.Config{Funcs: r.Intn(5), Stats: 1 + r.Intn(8), Depth: 1 + r.Intn(4), Size: 20 + r.Intn(size-19)}, list)
	if e != api.OK {
		t.Fatal(e)
	}
	return n
}

func candidates(t *testing.T, n api.Node) []api.Node {
	t.Helper()
	list, e := reduce.Candidates(n)
	if e != api.OK {
		t.Fatalf("Candidates(%+v): %d", n, e)
	}
	return list
}

// mainOf: the text of a program of these statements.
func mainOf(statements string) string { return "i32 main() {" + statements + "}" }

// expect: these are the candidates of a program, and no others, in this order.
func expect(t *testing.T, s string, want ...string) {
	t.Helper()
	n := read(t, s)
	got := candidates(t, n)
	for i, c := range got {
		if i >= len(want) || !tree.Same(c, read(t, want[i])) {
			t.Errorf("%s: candidate %d is %s; want %q", s, i, text(t, c), want[min(i, len(want)):])
			return
		}
		if tree.Weight(c) >= tree.Weight(n) {
			t.Errorf("%s: candidate %d, %s, doesn't weigh less", s, i, text(t, c))
		}
	}
	if len(got) != len(want) {
		t.Errorf("%s: %d candidates; want %d", s, len(got), len(want))
	}
}

// expectMain: as expect, of programs of which nothing but main's statements is told.
func expectMain(t *testing.T, s string, want ...string) {
	t.Helper()
	for i := range want {
		want[i] = mainOf(want[i])
	}
	expect(t, mainOf(s), want...)
}

// P27.1: structs, globals and functions are left out, main never; their fields and parameters aren't, nor what they are named.
func TestItems(t *testing.T) {
	expect(t, "i32 main() { }")
	expect(t, "struct main { u8 x; i32 y; } i32 main() { }", "i32 main() { }")
	expect(t, "u8 g; i32 main() { }", "i32 main() { }")
	expect(t, "u8 g = 0u8; i32 main() { }", "i32 main() { }")
	expect(t, "u8 g = 6u8; i32 main() { }", "i32 main() { }", "u8 g = 0u8; i32 main() { }", "u8 g = 3u8; i32 main() { }")
	expect(t, "u8 g[3i32]; i32 main() { }", "i32 main() { }")
	expect(t, "i32 mainn(u8 x, u8 *y) { } i32 main() { }", "i32 main() { }")
	expect(t, "i32 f() { return 0i32; } i32 main() { f(); }",
		"i32 main() { f(); }",
		"i32 f() { } i32 main() { f(); }",
		"i32 f() { return 0i32; } i32 main() { }")
	expect(t, "struct s { u8 x; } struct s v; i32 g; u8 f() { } i16 h() { } i32 main() { }",
		"struct s v; i32 g; u8 f() { } i16 h() { } i32 main() { }",
		"struct s { u8 x; } i32 g; u8 f() { } i16 h() { } i32 main() { }",
		"struct s { u8 x; } struct s v; u8 f() { } i16 h() { } i32 main() { }",
		"struct s { u8 x; } struct s v; i32 g; i16 h() { } i32 main() { }",
		"struct s { u8 x; } struct s v; i32 g; u8 f() { } i32 main() { }")
}

// row: the statements with these numbers, none of which has candidates within.
func row(numbers ...int) string {
	var b strings.Builder
	for _, i := range numbers {
		b.WriteString("print(" + strings.Repeat("v[", i) + "0i32" + strings.Repeat("]", i) + ");")
	}
	return b.String()
}

// P27.1: Blocks of up to 11 statements: from 4 on without the first half, then without as many behind these; then each statement alone. So it is of main's Block, and of one that stands deep within.
func TestBlocks(t *testing.T) {
	about := []struct{ ahead, behind string }{{"i32 v[1i32]; i32 main() {", "}"}, {"i32 v[1i32]; i32 main() { if (0u8) { for i = 0i32 to 1i32 {", "} } }"}}
	for many := range 12 {
		var numbers []int
		for i := range many {
			numbers = append(numbers, i)
		}
		var want []string
		if half := many / 2; half >= 2 {
			want = append(want, row(numbers[half:]...), row(append(append([]int{}, numbers[:half]...), numbers[2*half:]...)...))
		}
		for i := range many {
			want = append(want, row(append(append([]int{}, numbers[:i]...), numbers[i+1:]...)...))
		}
		for k, a := range about {
			program := func(s string) string { return a.ahead + s + a.behind }
			ahead := []string{"i32 main() {" + strings.TrimPrefix(program(row(numbers...)), about[0].ahead)}
			if k == 1 {
				// Without the If, its Block alone; then without the For, its Block alone.
				loop := "for i = 0i32 to 1i32 {" + row(numbers...) + "}"
				ahead = append(ahead, about[0].ahead+"}", about[0].ahead+loop+"}", about[0].ahead+"if (0u8) { } }", about[0].ahead+"if (0u8) {"+row(numbers...)+"} }")
			}
			list := ahead
			for _, w := range want {
				list = append(list, program(w))
			}
			expect(t, program(row(numbers...)), list...)
		}
	}
	expectMain(t, "return 0i32; return 0i32; return 0i32;", "return 0i32; return 0i32;", "return 0i32; return 0i32;", "return 0i32; return 0i32;")
	expectMain(t, "print(0u8); print(0i8); print(0u16); print(0i16); print(0u32);",
		"print(0u16); print(0i16); print(0u32);", "print(0u8); print(0i8); print(0u32);",
		"print(0i8); print(0u16); print(0i16); print(0u32);", "print(0u8); print(0u16); print(0i16); print(0u32);", "print(0u8); print(0i8); print(0i16); print(0u32);",
		"print(0u8); print(0i8); print(0u16); print(0u32);", "print(0u8); print(0i8); print(0u16); print(0i16);")
}

// P27.1: each kind of statement: nothing; of an If what is in its Blocks, of a For what is in its one, of a Let with a kid the same without.
func TestStatements(t *testing.T) {
	expectMain(t, "i32 x;", "")
	expectMain(t, "i32 x[3i32];", "")
	expectMain(t, "i32 x = 0i32;", "", "i32 x;")
	expectMain(t, "i32 x; x = 0i32;", "x = 0i32;", "i32 x;")
	expectMain(t, "i32 x = 0i32; return x;", "return x;", "i32 x; return x;", "i32 x = 0i32;")
	expectMain(t, "if (0u8) { }", "", "")
	expectMain(t, "if (0u8) { } else { }", "", "", "")
	expectMain(t, "if (0u8) { print(0u8); }", "", "print(0u8);", "if (0u8) { }")
	expectMain(t, "if (0u8) { } else { print(0u8); }", "", "", "print(0u8);", "if (0u8) { } else { }")
	expectMain(t, "if (0u8) { print(0u8); print(0i8); } else { print(0u16); return 0i32; } print(0u32);",
		"print(0u32);", "print(0u8); print(0i8); print(0u32);", "print(0u16); return 0i32; print(0u32);",
		"if (0u8) { print(0i8); } else { print(0u16); return 0i32; } print(0u32);",
		"if (0u8) { print(0u8); } else { print(0u16); return 0i32; } print(0u32);",
		"if (0u8) { print(0u8); print(0i8); } else { return 0i32; } print(0u32);",
		"if (0u8) { print(0u8); print(0i8); } else { print(0u16); } print(0u32);",
		"if (0u8) { print(0u8); print(0i8); } else { print(0u16); return 0i32; }")
	expectMain(t, "for i = 5i32 to 9i32 { }", "", "")
	expectMain(t, "for i = 5i32 to 9i32 { print(i); print(0u8); }", "", "print(i); print(0u8);", "for i = 5i32 to 9i32 { print(0u8); }", "for i = 5i32 to 9i32 { print(i); }")
	expectMain(t, "i32 x; for x = 0i32 to 1i32 { i32 x; x = 0i32; }",
		"for x = 0i32 to 1i32 { i32 x; x = 0i32; }",
		"i32 x;", "i32 x; i32 x; x = 0i32;",
		"i32 x; for x = 0i32 to 1i32 { x = 0i32; }", "i32 x; for x = 0i32 to 1i32 { i32 x; }")
	expect(t, "u8 f(u8 x, u8 *y) { } i32 main() { u8 r; r = f(r, &r); f(r, &r); }",
		"i32 main() { u8 r; r = f(r, &r); f(r, &r); }",
		"u8 f(u8 x, u8 *y) { } i32 main() { r = f(r, &r); f(r, &r); }",
		"u8 f(u8 x, u8 *y) { } i32 main() { u8 r; f(r, &r); }",
		"u8 f(u8 x, u8 *y) { } i32 main() { u8 r; r = f(r, &r); }")
	expect(t, "struct s { u8 a; } i32 main() { struct s v; print(v.a); v.a = v.a; }",
		"i32 main() { struct s v; print(v.a); v.a = v.a; }",
		"struct s { u8 a; } i32 main() { print(v.a); v.a = v.a; }",
		"struct s { u8 a; } i32 main() { struct s v; v.a = v.a; }",
		"struct s { u8 a; } i32 main() { struct s v; print(v.a); }")
}

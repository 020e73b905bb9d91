package reduce_test

import (
	"strconv"
	"strings"
	"testing"

	"burin/api"
	"burin/ints"
	"burin/reduce"
	"burin/tree"
)

var names = []string{"i8", "u8", "i16", "u16", "i32", "u32"}

// number: the text of a Lit.
func number(typ byte, v int64) string {
	s := strconv.FormatInt(v, 10) + names[typ]
	if v < 0 {
		return "#" + s
	}
	return s
}

// P27.1: a Lit that isn't 0 becomes 0, and half of it, rounded toward 0: of each type the least, the greatest, those about them, about 0, and about each power of 2.
func TestLits(t *testing.T) {
	for typ := range byte(6) {
		span := ints.Span(typ)
		low, high := span.Low, span.High
		numbers := []int64{low, low + 1, low + 2, high, high - 1, high - 2, -3, -2, -1, 0, 1, 2, 3, 5, 6, 7, 100, -100, -101}
		for i := range 32 {
			numbers = append(numbers, 1<<i, 1<<i-1, 1<<i+1, -(1 << i), 1-1<<i, -1-1<<i)
		}
		for _, v := range numbers {
			if v < low || high < v {
				continue
			}
			program := func(v int64) string { return mainOf("print(" + number(typ, v) + ");") }
			want := []string{mainOf("")}
			if v != 0 {
				half := max(v, -v) >> 1
				if v < 0 {
					half = -half
				}
				want = append(want, program(0), program(half))
			}
			expect(t, program(v), want...)
		}
	}
	expectMain(t, "print(#-1i8);", "", "print(0i8);", "print(0i8);")
	expectMain(t, "print(#-3i8);", "", "print(0i8);", "print(#-1i8);")
	expectMain(t, "print(#-128i8);", "", "print(0i8);", "print(#-64i8);")
	expectMain(t, "print(4294967295u32);", "", "print(0u32);", "print(2147483647u32);")
	expectMain(t, "for i = 3i32 to 8i32 { return 8i32; }", "", "return 8i32;", "for i = 3i32 to 8i32 { }", "for i = 3i32 to 8i32 { return 0i32; }", "for i = 3i32 to 8i32 { return 4i32; }")
	expect(t, "u8 a[9i32]; i32 main() { a[5i32] = a[2u8]; }",
		"i32 main() { a[5i32] = a[2u8]; }", "u8 a[9i32]; i32 main() { }",
		"u8 a[9i32]; i32 main() { a[0i32] = a[2u8]; }", "u8 a[9i32]; i32 main() { a[2i32] = a[2u8]; }",
		"u8 a[9i32]; i32 main() { a[5i32] = a[0u8]; }", "u8 a[9i32]; i32 main() { a[5i32] = a[1u8]; }")
}

// P27.1: of an expression of parts each of them, then the Lit 0 of its type: of each operation, for kids of each type.
func TestParts(t *testing.T) {
	signs := strings.Fields("+ - * / % & | ^ << >> < <= > >= == != && ||")
	for typ, name := range names {
		about := func(s string) string { return name + " x; " + name + " y; i32 main() { print(" + s + "); }" }
		ahead := func(s string) []string {
			return []string{name + " y; i32 main() { print(" + s + "); }", name + " x; i32 main() { print(" + s + "); }", name + " x; " + name + " y; i32 main() { }"}
		}
		ask := func(s string, parts ...string) {
			list := ahead(s)
			for _, p := range parts {
				list = append(list, about(p))
			}
			expect(t, about(s), list...)
		}
		zero := number(byte(typ), 0)
		for i, sign := range signs {
			made := zero
			if byte(i+1) >= api.Lt {
				made = "0i32"
			}
			ask("x "+sign+" y", "x", "y", made)
		}
		ask("-x", "x", zero)
		ask("~x", "x", zero)
		ask("!x", "x", "0i32")
		ask("x ? y : x", "x", "y", "x", zero)
		for other, to := range names {
			ask("("+to+")x", "x", number(byte(other), 0))
			ask("0"+to+" ? x : y", "0"+to, "x", "y", zero)
			ask("x << 0"+to, "x", "0"+to, zero)
			ask("0"+to+" >> x", "0"+to, "x", "0"+to)
			ask("x && 0"+to, "x", "0"+to, "0i32")
			ask("0"+to+" || x", "0"+to, "x", "0i32")
		}
	}
	for _, s := range []string{"x", "a[x]", "s.f", "*p"} {
		program := func(s string) string {
			return "struct t { u8 f; } struct t s; u8 x; u8 a[2i32]; u8 f(u8 *p) { print(" + s + "); } i32 main() { }"
		}
		// Without the struct, each global, f, and the Print: a variable has none.
		if list := candidates(t, read(t, program(s))); len(list) != 6 {
			t.Errorf("%s: %d candidates", s, len(list))
		}
	}
}

// P27.1: expressions within one another, in the order of their numbers: each node's candidates ahead of those of its kids.
func TestPartsWithin(t *testing.T) {
	program := func(s string) string { return mainOf("u8 x; print(" + s + ");") }
	ask := func(s string, parts ...string) {
		list := []string{mainOf("print(" + s + ");"), mainOf("u8 x;")}
		for _, p := range parts {
			list = append(list, program(p))
		}
		expect(t, program(s), list...)
	}
	ask("-(x ? (i8)x : 3i8)",
		"x ? (i8)x : 3i8", "0i8", // -
		"-x", "-(i8)x", "-3i8", "-0i8", // ?
		"-(x ? x : 3i8)", "-(x ? 0i8 : 3i8)", // (i8)
		"-(x ? (i8)x : 0i8)", "-(x ? (i8)x : 1i8)") // 3
	ask("!(x << (4u8 - ~x)) < 2i32",
		"!(x << (4u8 - ~x))", "2i32", "0i32", // <
		"(x << (4u8 - ~x)) < 2i32", "0i32 < 2i32", // !
		"!x < 2i32", "!(4u8 - ~x) < 2i32", "!0u8 < 2i32", // <<
		"!(x << 4u8) < 2i32", "!(x << ~x) < 2i32", "!(x << 0u8) < 2i32", // -
		"!(x << (0u8 - ~x)) < 2i32", "!(x << (2u8 - ~x)) < 2i32", // 4
		"!(x << (4u8 - x)) < 2i32", "!(x << (4u8 - 0u8)) < 2i32", // ~
		"!(x << (4u8 - ~x)) < 0i32", "!(x << (4u8 - ~x)) < 1i32") // 2
	ask("(i16)(i8)-1i8",
		"(i8)-1i8", "0i16", "(i16)-1i8", "(i16)0i8", "(i16)(i8)1i8", "(i16)(i8)0i8", "(i16)(i8)-0i8", "(i16)(i8)-0i8")
	expectMain(t, "i32 a[4i32]; a[a[1i32 + a[2i32]]] = a[-(1i32)];",
		"a[a[1i32 + a[2i32]]] = a[-(1i32)];", "i32 a[4i32];",
		"i32 a[4i32]; a[a[1i32]] = a[-(1i32)];", "i32 a[4i32]; a[a[a[2i32]]] = a[-(1i32)];", "i32 a[4i32]; a[a[0i32]] = a[-(1i32)];",
		"i32 a[4i32]; a[a[0i32 + a[2i32]]] = a[-(1i32)];", "i32 a[4i32]; a[a[0i32 + a[2i32]]] = a[-(1i32)];",
		"i32 a[4i32]; a[a[1i32 + a[0i32]]] = a[-(1i32)];", "i32 a[4i32]; a[a[1i32 + a[1i32]]] = a[-(1i32)];",
		"i32 a[4i32]; a[a[1i32 + a[2i32]]] = a[1i32];", "i32 a[4i32]; a[a[1i32 + a[2i32]]] = a[0i32];",
		"i32 a[4i32]; a[a[1i32 + a[2i32]]] = a[-0i32];", "i32 a[4i32]; a[a[1i32 + a[2i32]]] = a[-0i32];")
}

// P27.1: several rules in one program: a function, its Block of four, a Let, an If, an expression within.
func TestSeveral(t *testing.T) {
	const f = "u8 f(u8 x) { u8 y = x; if (y) { return 2u8; } y = y; return -y; } "
	const g = "u8 g = 1u8; "
	const m = "i32 main() { g = f(g); }"
	expect(t, g+f+m,
		f+m, "u8 g = 0u8; "+f+m, "u8 g = 0u8; "+f+m,
		g+m,
		g+"u8 f(u8 x) { y = y; return -y; } "+m,
		g+"u8 f(u8 x) { u8 y = x; if (y) { return 2u8; } } "+m,
		g+"u8 f(u8 x) { if (y) { return 2u8; } y = y; return -y; } "+m,
		g+"u8 f(u8 x) { u8 y; if (y) { return 2u8; } y = y; return -y; } "+m,
		g+"u8 f(u8 x) { u8 y = x; y = y; return -y; } "+m,
		g+"u8 f(u8 x) { u8 y = x; return 2u8; y = y; return -y; } "+m,
		g+"u8 f(u8 x) { u8 y = x; if (y) { } y = y; return -y; } "+m,
		g+"u8 f(u8 x) { u8 y = x; if (y) { return 0u8; } y = y; return -y; } "+m,
		g+"u8 f(u8 x) { u8 y = x; if (y) { return 1u8; } y = y; return -y; } "+m,
		g+"u8 f(u8 x) { u8 y = x; if (y) { return 2u8; } return -y; } "+m,
		g+"u8 f(u8 x) { u8 y = x; if (y) { return 2u8; } y = y; } "+m,
		g+"u8 f(u8 x) { u8 y = x; if (y) { return 2u8; } y = y; return y; } "+m,
		g+"u8 f(u8 x) { u8 y = x; if (y) { return 2u8; } y = y; return 0u8; } "+m,
		g+f+"i32 main() { }")
}

// P27.1: what is said to be the same is so in all fields, those of which no rule speaks too; the Lit 0 of a type has no others than that.
func TestFields(t *testing.T) {
	n := read(t, mainOf("i32 x = -6i32; print(0u8); print(0i8); print(0u16);"))
	block := &n.Kids[0].Kids[0]
	let := &block.Kids[0]
	neg, lit := &let.Kids[0], &let.Kids[0].Kids[0]
	for _, m := range []*api.Node{&n, &n.Kids[0], block, neg, lit} {
		m.M, m.Field = 7, "zz"
	}
	block.N, block.Name, lit.Name, lit.Op, neg.N, let.Op, let.N = 4, "b", "l", 9, 1<<40, 3, 5
	list, e := reduce.Candidates(n)
	if e != api.OK || len(list) != 2+2+2+2+3 {
		t.Fatalf("%d candidates, %d", len(list), e)
	}
	swap := func(at int, m api.Node) api.Node {
		p, e := tree.Put(n, at, []api.Node{m})
		if e != api.OK {
			t.Fatal(e)
		}
		return p
	}
	behind, ahead, bare, zero, half := *block, *block, *let, *lit, *lit
	behind.Kids, ahead.Kids, bare.Kids, zero.N, half.N = block.Kids[2:], block.Kids[:2], nil, 0, 3
	none, e := tree.Put(n, 3, nil)
	if e != api.OK {
		t.Fatal(e)
	}
	for i, want := range []api.Node{
		swap(2, behind), swap(2, ahead), none, swap(3, bare),
		swap(4, *lit), swap(4, api.Node{Kind: api.Lit, Type: api.Type{Int: api.I32}}), swap(5, zero), swap(5, half),
	} {
		if !tree.Same(list[i], want) {
			t.Errorf("candidate %d: %+v; want %+v", i, list[i], want)
		}
	}
}

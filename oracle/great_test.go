package oracle_test

import (
	"math/rand"
	"strconv"
	"strings"
	"testing"

	"burin/api"
	"burin/code"
	"burin/lower"
	"burin/oracle"
	"burin/parse"
	"burin/safe"
	"burin/tree"
)

// each: what is said for the numbers from 0 on, one behind the other; # stands for the number.
func each(many int, s string) string {
	var b strings.Builder
	for i := range many {
		b.WriteString(strings.ReplaceAll(s, "#", strconv.Itoa(i)))
	}
	return b.String()
}

// chain: so many functions, each of which calls the one ahead of it.
func chain(many int, s string) string {
	var b strings.Builder
	for i := range many {
		b.WriteString("i32 f" + strconv.Itoa(i) + s)
		if i > 0 {
			b.WriteString("f" + strconv.Itoa(i-1) + "();")
		}
		b.WriteString("}")
	}
	return b.String()
}

// shape is a program that may be made as great as one likes.
type shape struct {
	name string
	text func(many int) string
}

// shapes take as much room, or as many steps of the machine, as their nodes, or the steps of the program, let them.
func shapes() []shape {
	many := "u8 x0; u8 x1; u8 x2; u8 x3; u8 x4; u8 x5; u8 x6; u8 x7; u8 x8; u8 x9;"
	sum := "print(x0 + x1 + x2 + x3 + x4 + x5 + x6 + x7 + x8 + x9);"
	return []shape{
		{"globals", func(n int) string { return each(n, "u8 a#[16i32];") + "i32 main() { }" }},
		{"locals", func(n int) string { return "i32 main() {" + each(n, "u8 a#[16i32];") + "}" }},
		{"locals, each with an address", func(n int) string {
			return "i32 main() {" + each(n, "u8 a#[16i32];") + each(n/4, "a#[1i32] = 5u8;") + each(n/4, "print(a#[1i32]);") + "}"
		}},
		{"locals in calls", func(n int) string {
			return chain(n/8, "() { u8 a[16i32]; u8 b[16i32]; u8 c[16i32]; u8 d[16i32]; u8 e[16i32];") + "i32 main() { f" + strconv.Itoa(n/8-1) + "(); }"
		}},
		{"calls", func(n int) string { return chain(n/3, "() {") + "i32 main() { f" + strconv.Itoa(n/3-1) + "(); }" }},
		{"arrays in a loop", func(n int) string {
			return "i32 main() { for i = 0i32 to 16i32 {" + each(min(n, 1200), "u8 a#[16i32];") + "} }"
		}},
		{"arrays in a loop, where many registers are in use", func(n int) string {
			return "i32 main() {" + many + "for i = 0i32 to 16i32 {" + each(min(n, 1200), "u8 a#[16i32];") + sum + "}" + sum + "}"
		}},
		{"structs in a loop", func(n int) string {
			return "struct s { u8 a; u8 b; u8 c; u8 d; u8 e; u8 f; u8 g; u8 h; } i32 main() { for i = 0i32 to 16i32 {" + each(min(n, 1200), "struct s a#;") + "} }"
		}},
		{"ints", func(n int) string {
			return "u8 g; i32 main() {" + each(n/4, "u8 a# = g;") + "if (g) { }" + each(n/4, "print(a#);") + "}"
		}},
		{"ints in a loop", func(n int) string {
			return "u8 g; i32 main() {" + each(n/4, "u8 a# = g;") + "for i = 0i32 to 5i32 {" + each(n/4, "a# = a# + 1u8;") + "} " + each(n/4, "print(a#);") + "}"
		}},
		{"loops in loops", func(n int) string {
			return "i32 main() {" + each(n/9, "for i = 0i32 to 3i32 { for j = 0i32 to 3i32 { print(j); } }") + "}"
		}},
		{"loops without rounds", func(n int) string {
			return "i32 main() {" + each(n/7, "for i = 3i32 to 3i32 { print(1u8 / 0u8); }") + "}"
		}},
		{"empty loops", func(n int) string { return "i32 main() {" + each(n/2, "for i = 0i32 to 8i32 { }") + "}" }},
		{"choices", func(n int) string { return "u8 g; i32 main() {" + each(n/8, "if (g) { print(1u8); } else { }") + "}" }},
		{"expressions", func(n int) string {
			return "u8 g[3i32]; i32 main() { u8 x; " + each(n/13, "x = (u8)(g[#i32 % 3i32] ? x && 1u8 : x || g[2i32]);") + "}"
		}},
		{"calls done where they stand", func(n int) string {
			return "u8 f(u8 a, u8 b, u8 c, u8 d, u8 e, u8 g) { return b - g; } i32 main() { u8 x = 1u8; u8 y = 2u8; for i = 0i32 to 16i32 { for j = 0i32 to 6i32 {" + each(9, "x = f(x, y, x, y, x, y);") + "} } print(x);" + each(n/2, "print(1u8);") + "}"
		}},
		{"calls with six arguments", func(n int) string {
			return "u8 f(u8 a, u8 b, u8 c, u8 d, u8 e, u8 *p) { *p = a - b; return c - d; } i32 main() {" + many + each(n/9, "x0 = f(x1, x2, x3, x4, x5, &x6);") + sum + "}"
		}},
		{"rets", func(n int) string { return "i32 main() {" + each(n/2, "return 0i32;") + "}" }},
	}
}

// padded: the same program with so many nodes, by Lets at main's beginning that nobody asks for.
func padded(n api.Node, size int) api.Node {
	n = tree.Copy(n)
	f := &n.Kids[len(n.Kids)-1]
	block := &f.Kids[len(f.Kids)-1]
	var lets []api.Node
	for i := range size - tree.Size(n) {
		lets = append(lets, api.Node{Kind: api.Let, Type: api.Type{Kind: api.TInt, Int: api.U8}, Name: "zz" + strconv.Itoa(i)})
	}
	block.Kids = append(lets, block.Kids...)
	return n
}

// ofShape: the greatest program of a shape with at most so many nodes that is safe, and so many Lets more that it has just as many nodes.
func ofShape(t *testing.T, s shape, size int) api.Node {
	t.Helper()
	for many := size; many > size/20; many -= 1 + many/20 {
		n, at, e := parse.Parse(s.text(many))
		if e == api.ErrLong || tree.Size(n) > size {
			continue
		}
		if e != api.OK {
			t.Fatalf("%s: %d at %d", s.name, e, at)
		}
		if n = padded(n, size); tree.Size(n) != size {
			t.Fatalf("%s: %d nodes", s.name, tree.Size(n))
		}
		if _, _, e := safe.Check(n); e == api.OK {
			return n
		}
	}
	t.Fatalf("%s: no safe program of %d nodes", s.name, size)
	return api.Node{}
}

// sets: each pass alone, all but each, none, all, and some others.
func sets(r *rand.Rand) []byte {
	l := []byte{0, all, byte(r.Intn(64)), byte(r.Intn(64))}
	for i := range 6 {
		l = append(l, 1<<i, all&^(1<<i))
	}
	return l
}

// P26.4, P5: a safe program of just 400 nodes is Agree, whatever the passes: of each shape, and of programs from draws.
func TestFourHundredNodes(t *testing.T) {
	r := rand.New(rand.NewSource(36))
	for _, s := range shapes() {
		n := ofShape(t, s, 400)
		for _, passes := range sets(r) {
			if v := oracle.Judge(n, passes, 0); v.Kind != oracle.Agree {
				t.Errorf("%s, passes %d: %+v", s.name, passes, v)
			}
		}
	}
	for range 60 {
		n := padded(drawn(t, r, 400), 400)
		if _, _, e := safe.Check(n); e != api.OK {
			t.Fatalf("padded: %d", e)
		}
		for _, passes := range sets(r) {
			if v := oracle.Judge(n, passes, 0); v.Kind != oracle.Agree {
				t.Fatalf("%+v, passes %d: %+v", n, passes, v)
			}
		}
	}
}

// P26.4: a safe program of as many nodes as there may be is no Mismatch.
func TestGreatPrograms(t *testing.T) {
	r := rand.New(rand.NewSource(37))
	agree := 0
	for _, s := range shapes() {
		n := ofShape(t, s, api.MaxNodes)
		for _, passes := range []byte{0, all, byte(r.Intn(64))} {
			v := oracle.Judge(n, passes, 0)
			switch {
			case v.Kind == oracle.Agree:
				agree++
			case v.Kind == oracle.Mismatch || v.E != api.ErrLimit || v.At != 0:
				t.Errorf("%s, passes %d: %d, %d at %d, %+v", s.name, passes, v.Kind, v.E, v.At, v.Got)
			}
		}
	}
	if t.Logf("%d agree", agree); agree < 40 {
		t.Errorf("%d agree", agree)
	}
}

// P26.2, P26.3: a safe program for whose image there is no room: ErrLimit, 0; one with a Let less is Agree.
func TestNoRoom(t *testing.T) {
	of := func(many int) api.Node {
		return read(t, "i32 main() { for i = 0i32 to 1i32 {"+each(many, "u8 a#[16i32];")+"} print(7u8); return 3i32; }")
	}
	fits, not := 1, 3000
	for fits+1 < not {
		half := (fits + not) / 2
		if _, _, e := lower.Program(of(half)); e == api.OK {
			fits = half
		} else {
			not = half
		}
	}
	if _, _, e := safe.Check(of(not)); e != api.OK {
		t.Fatalf("safe.Check of %d Lets: %d", not, e)
	}
	for _, passes := range []byte{0, all, 255} {
		for _, faults := range []byte{0, oracle.Fold, 255} {
			im, at, e := oracle.Compile(of(not), passes, faults)
			if at != 0 || e != api.ErrLimit || len(im.Words)+len(im.Starts)+len(im.Frames)+len(im.Data) > 0 {
				t.Errorf("%d Lets, passes %d, faults %d: %d at %d", not, passes, faults, e, at)
			}
			if v := judged(t, of(not), passes, faults); v.Kind != oracle.Invalid || v.At != 0 || v.E != api.ErrLimit || v.Bound != 0 {
				t.Errorf("%d Lets, passes %d, faults %d: %+v", not, passes, faults, v)
			}
		}
		if v := judged(t, of(fits), passes, 0); v.Kind != oracle.Agree || v.Want.Exit != 3 || v.Bound != fits+6 {
			t.Errorf("%d Lets, passes %d: %+v", fits, passes, v)
		}
	}
	t.Logf("room for %d Lets", fits)
}

// P26.1: code that Emit would refuse is made as any other.
func TestOptimizeOfWideCode(t *testing.T) {
	wide := api.Code{Fns: []api.Fn{{Regs: 1, Parts: []api.Part{{Insts: []api.Inst{{Op: api.IConst, Imm: 1 << 40}}, End: true}}}}}
	if _, e := code.Emit(wide, false); e != api.ErrLimit {
		t.Fatalf("Emit: %d", e)
	}
	for _, passes := range []byte{0, all} {
		if c := optimized(t, wide, passes, 0); len(c.Fns) != 1 || c.Fns[0].Parts[0].Insts[0].Imm != 1<<40 {
			t.Errorf("Optimize, passes %d: %+v", passes, c)
		}
	}
}

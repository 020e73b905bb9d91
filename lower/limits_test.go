package lower

import (
	"fmt"
	"math"
	"reflect"
	"slices"
	"strings"
	"testing"

	"burin/api"
	"burin/ir"
	"burin/tree"
	"burin/types"
)

// refused asks that nothing is told but an error and a node.
func refused(t *testing.T, what string, n api.Node, at int, e api.Errno) {
	t.Helper()
	c, gotAt, got := Program(n)
	if got != e || gotAt != at || !reflect.DeepEqual(c, api.Code{}) {
		t.Errorf("%.500s: %d at %d, %d functions; want %d at %d", what, got, gotAt, len(c.Fns), e, at)
	}
}

// program: main of these statements.
func program(stats ...api.Node) api.Node {
	block := api.Node{Kind: api.Block, Kids: stats}
	main := api.Node{Kind: api.Func, Name: "main", Type: api.Type{Int: api.I32}, Kids: []api.Node{block}}
	return api.Node{Kind: api.Prog, Kids: []api.Node{main}}
}

func nots(count int, n api.Node) api.Node {
	for range count {
		n = api.Node{Kind: api.Unary, Op: api.Not, Kids: []api.Node{n}}
	}
	return n
}

func print(n api.Node) api.Node { return api.Node{Kind: api.Print, Kids: []api.Node{n}} }

var one = api.Node{Kind: api.Lit, Type: api.Type{Int: api.U8}, N: 1}

// P15.1, P1: trees that are no programs: the error and the node of types.Resolve, and no code.
func TestErrors(t *testing.T) {
	ring := make([]api.Node, 1)
	ring[0] = api.Node{Kind: api.Prog, Kids: ring}
	for _, r := range []struct {
		what string
		n    api.Node
		at   int
		e    api.Errno
	}{
		{"nothing", api.Node{}, 0, api.ErrForm},
		{"no items", api.Node{Kind: api.Prog}, 0, api.ErrForm},
		{"no main", read(t, "i32 f() { }"), 0, api.ErrForm},
		{"a length", read(t, "u8 a[0i32]; i32 main() { }"), 1, api.ErrForm},
		{"a name", read(t, "i32 main() { x = 1i32; }"), 4, api.ErrName},
		{"a type", read(t, "i32 main() { print(1i32 + 1u8); }"), 6, api.ErrType},
		{"a call", read(t, "i32 main() { main(); }"), 3, api.ErrCall},
		{"twice", read(t, "u8 x; u8 x; i32 main() { }"), 2, api.ErrTwice},
		{"rounds", read(t, "i32 main() { for i = 0i32 to 17i32 { } }"), 3, api.ErrArg},
		{"a loop's variable", read(t, "i32 main() { for i = 0i32 to 2i32 { i = 1i32; } }"), 6, api.ErrType},
		{"behind a return", read(t, "i32 main() { return 1i32; print(x); }"), 6, api.ErrName},
		{"too deep", program(print(nots(api.MaxDepth-4, one))), 0, api.ErrLong},
		{"too many", program(slices.Repeat([]api.Node{print(one)}, api.MaxNodes/2)...), 0, api.ErrLong},
		{"a ring", ring[0], 0, api.ErrLong},
		{"another kind", program(api.Node{Kind: 77}), 3, api.ErrForm},
		{"another operation", program(print(api.Node{Kind: api.Unary, Op: 4, Kids: []api.Node{one}})), 4, api.ErrForm},
		{"a number", program(print(api.Node{Kind: api.Lit, Type: one.Type, N: 256})), 4, api.ErrForm},
		{"the greatest rounds", program(api.Node{Kind: api.For, Name: "i", N: math.MinInt64, M: math.MaxInt64, Kids: []api.Node{{Kind: api.Block}}}), 3, api.ErrArg},
	} {
		if at, e := types.Check(r.n); at != r.at || e != r.e {
			t.Errorf("%s: Check says %d at %d", r.what, e, at)
		}
		refused(t, r.what, r.n, r.at, r.e)
	}
}

// P15.1: trees as great and as deep as may be.
func TestGreatTrees(t *testing.T) {
	deep := program(print(nots(api.MaxDepth-5, one)))
	if tree.Depth(deep) != api.MaxDepth {
		t.Fatal(tree.Depth(deep))
	}
	if o := hold(t, "deep", deep); !slices.Equal(o.Trace, []int64{254}) {
		t.Errorf("%+v", o)
	}
	great := program(slices.Repeat([]api.Node{print(one)}, (api.MaxNodes-3)/2)...)
	great.Kids = append([]api.Node{{Kind: api.Global, Name: "g", Type: one.Type}}, great.Kids...)
	if tree.Size(great) != api.MaxNodes {
		t.Fatal(tree.Size(great))
	}
	if o := hold(t, "great", great); len(o.Trace) != (api.MaxNodes-3)/2 {
		t.Errorf("%+v", o)
	}
}

// room: a program whose code has that many instructions and parts: in a loop cells are made 0 again, as many at a time as there can be.
func room(t *testing.T, count int) api.Node {
	t.Helper()
	text := func(arrays, numbers int) api.Node {
		var s strings.Builder
		for i := range arrays {
			fmt.Fprintf(&s, "u8 a%d[16i32];", i)
		}
		for i := range numbers {
			fmt.Fprintf(&s, "u8 x%d;", i)
		}
		return read(t, "i32 main(){for i=0i32 to 1i32{"+s.String()+"}print(7u8);}")
	}
	length := func(n api.Node) int { return ir.Count(made(t, "room", n)) }
	none := length(text(0, 0))
	array, number := length(text(1, 0))-none, length(text(0, 1))-none
	arrays := (count - none) / array
	return text(arrays, (count-none-arrays*array)/number)
}

// P15.1: code of MaxInsts instructions and parts, and of more.
func TestMaxInsts(t *testing.T) {
	n := room(t, api.MaxInsts)
	if count := ir.Count(made(t, "MaxInsts", n)); count != api.MaxInsts {
		t.Fatalf("%d instructions and parts", count)
	}
	if o := hold(t, "MaxInsts", n); !o.Halted || !slices.Equal(o.Trace, []int64{7}) {
		t.Errorf("%+v", o)
	}
	for _, more := range []int{1, 2, 33, 1000, 60000} {
		refused(t, fmt.Sprint(more, " beyond"), room(t, api.MaxInsts+more), 0, api.ErrLimit)
	}
	// What is wrong with a program is told first.
	n = room(t, api.MaxInsts+1)
	n.Kids[0].Kids[0].Kids[1].Kids[0].N = 256
	refused(t, "wrong, and too long", n, tree.Size(n)-1, api.ErrForm)
}

// P15.1: functions of MaxRegs registers, and of more.
func TestFits(t *testing.T) {
	of := func(regs ...int) api.Code {
		var c api.Code
		for _, n := range regs {
			c.Fns = append(c.Fns, api.Fn{Regs: n, Parts: make([]api.Part, 1)})
		}
		return c
	}
	for _, r := range []struct {
		c    api.Code
		want bool
	}{
		{of(1), true},
		{of(api.MaxRegs), true},
		{of(api.MaxRegs, api.MaxRegs, api.MaxRegs), true},
		{of(api.MaxRegs + 1), false},
		{of(1, api.MaxRegs+1, 1), false},
		{of(1, 1, api.MaxRegs+1), false},
		{api.Code{Fns: []api.Fn{{Parts: make([]api.Part, api.MaxInsts)}}}, true},
		{api.Code{Fns: []api.Fn{{Parts: make([]api.Part, api.MaxInsts+1)}}}, false},
		{api.Code{Fns: []api.Fn{{Parts: []api.Part{{Insts: make([]api.Inst, api.MaxInsts-1)}}}}}, true},
		{api.Code{Fns: []api.Fn{{Parts: []api.Part{{Insts: make([]api.Inst, api.MaxInsts)}}}}}, false},
	} {
		if fits(r.c) != r.want {
			t.Errorf("fits = %v", !r.want)
		}
	}
}

// greedy statements, each of which takes many registers, instructions or parts for its nodes.
var greedy = []string{
	"print(v.y);", "v.x = v.y;", "g = g;", "print(a[v.x]);", "a[a[v.x]] = a[a[v.y]];", "u8 N;", "u8 N = g;", "u8 N[1i32];", "struct s N;",
	"for N = 0i32 to 1i32 { }", "for N = 0i32 to 1i32 { u8 x; }", "for N = 0i32 to 1i32 { print(v.x); }", "if (v.x) { }", "if (g) { } else { }", "if (g) { return 1i32; } else { return 2i32; }",
	"return 1i32;", "print(v.x && v.y);", "print(v.x || v.y || g || v.x || v.y && g);", "print(v.x ? v.x : v.y);", "print(!v.x);", "print(-(v.x + v.y));",
	"f(v.x, v.x, v.x, v.x, v.x, v.x);", "v.x = f(v.x, v.x, v.x, v.x, v.x, v.x);", "a[v.x] = f(a[v.x], a[v.x], a[v.x], a[v.x], a[v.x], a[v.x]);", "k(&a[v.x]);", "k(&g);", "k(&v.y);",
}

// stuffed: the statement as often as there is room for it in so many nodes, in a loop or not.
func stuffed(t *testing.T, statement string, size int, loop bool) api.Node {
	t.Helper()
	text := func(times int) string {
		var s strings.Builder
		for i := range times {
			s.WriteString(strings.ReplaceAll(statement, "N", fmt.Sprint("n", i)))
		}
		body := s.String()
		if loop {
			body = "for i=0i32 to 1i32{" + body + "}"
		}
		return "struct s{u8 x;u8 y;}u8 g;u8 a[3i32];struct s v;u8 f(u8 a,u8 b,u8 c,u8 d,u8 e,u8 f){}u8 k(u8*p){}i32 main(){" + body + "}"
	}
	none := tree.Size(read(t, text(0)))
	each := tree.Size(read(t, text(1))) - none
	n := read(t, text((size-none)/each))
	if s := tree.Size(n); s > size || s+each <= size {
		t.Fatalf("%s: %d nodes", statement, s)
	}
	return n
}

// P15.1: of at most 500 nodes, with arrays and structs of at most 100 cells, ErrLimit is never answered; and of no program as great as may be, but those that make many cells 0 in a loop.
func TestNeverTooLong(t *testing.T) {
	for _, statement := range greedy {
		for _, loop := range []bool{false, true} {
			small := stuffed(t, statement, 500, loop)
			c := made(t, statement, small)
			hold(t, statement, small)
			most := 0
			for _, f := range c.Fns {
				most = max(most, f.Regs)
			}
			if count := ir.Count(c); count > 500*10 || most > 500*3 {
				t.Errorf("%s: %d instructions and parts, %d registers", statement, count, most)
			}
			hold(t, statement, stuffed(t, statement, api.MaxNodes-200, loop))
		}
	}
	// 100 cells in a loop, beside as many other nodes as there may be.
	arrays := "u8 N[16i32];u8 N1[16i32];u8 N2[16i32];u8 N3[16i32];u8 N4[16i32];u8 N5[16i32];u8 N6[4i32];"
	text := "i32 main(){for i=0i32 to 16i32{" + strings.ReplaceAll(arrays, "N", "a") + strings.Repeat("for j=0i32 to 1i32{}", 240) + "}}"
	n := read(t, text)
	if s := tree.Size(n); s > 500 || s < 490 {
		t.Fatal(s)
	}
	hold(t, text, n)
}

// roomy: the tree with spare room in all of its lists, and nodes in there.
func roomy(n api.Node) api.Node {
	list := make([]api.Node, len(n.Kids), len(n.Kids)+2)
	for i, kid := range n.Kids {
		list[i] = roomy(kid)
	}
	for i := len(list); i < cap(list); i++ {
		list[:cap(list)][i] = api.Node{Kind: 77, Name: "room", Kids: []api.Node{{Kind: 78}}}
	}
	n.Kids = list
	return n
}

// open: the tree with the spare room of its lists as kids.
func open(n api.Node) api.Node {
	n.Kids = slices.Clone(n.Kids[:cap(n.Kids)])
	for i := range n.Kids {
		n.Kids[i] = open(n.Kids[i])
	}
	return n
}

// ruin writes over all memory of a tree.
func ruin(n *api.Node) {
	for i := range n.Kids[:cap(n.Kids)] {
		ruin(&n.Kids[:cap(n.Kids)][i])
	}
	*n = api.Node{Kind: 99, Name: "ruined"}
}

// apart writes a number of its own into all memory of each list, and asks whether all are still there in the end.
func apart[T any](t *testing.T, lists [][]T, at func(*T) *int) {
	t.Helper()
	next := 1000
	for _, l := range lists {
		for i := range l[:cap(l)] {
			*at(&l[:cap(l)][i]) = next
			next++
		}
	}
	next = 1000
	for _, l := range lists {
		for i := range l[:cap(l)] {
			if *at(&l[:cap(l)][i]) != next {
				t.Fatal("two lists share memory")
			}
			next++
		}
	}
}

// spoil writes over all memory of codes, whose lists must stand apart.
func spoil(t *testing.T, codes ...api.Code) {
	t.Helper()
	var numbers [][]int
	var list [][]api.Inst
	var parts [][]api.Part
	var fns [][]api.Fn
	for _, c := range codes {
		numbers = append(numbers, c.Globals)
		fns = append(fns, c.Fns)
		for _, f := range c.Fns {
			numbers = append(numbers, f.Slots)
			parts = append(parts, f.Parts)
			for _, p := range f.Parts {
				list = append(list, p.Insts)
				for _, i := range p.Insts {
					numbers = append(numbers, i.Args)
				}
			}
		}
		for i := range c.Inits[:cap(c.Inits)] {
			c.Inits[:cap(c.Inits)][i] = 99
		}
	}
	apart(t, numbers, func(n *int) *int { return n })
	apart(t, list, func(i *api.Inst) *int { return &i.A })
	apart(t, parts, func(p *api.Part) *int { return &p.Cond })
	apart(t, fns, func(f *api.Fn) *int { return &f.Regs })
}

// P2, and the rule of memory: the same program has the same code; it is neither changed nor kept, and no two lists of answers share memory.
func TestMemory(t *testing.T) {
	for _, text := range []string{
		"i32 main() { }",
		"struct s { u8 x; u8 y; } u8 g = 3u8; u8 h[3i32]; u8 f(u8 a, u8 *b) { struct s v; v.y = a; *b = v.y; return 4u8; } u8 k(u8 *b, u8 c) { u8 x; x = f(c, &*b); x = f(x, &c); return x; } " +
			"i32 main() { u8 a[2i32]; for i = 0i32 to 5i32 { g = k(&a[1i32], g); print(g && a[1i32] || 1u8 ? h[g % 3u8] : 5u8); } if (g) { return 4i32; } f(1u8, &g); }",
		"i32 main() { print(1u8); x = 3u8; }",
	} {
		n := roomy(read(t, text))
		held := open(n)
		first, at, e := Program(n)
		kept := ir.Copy(first)
		second, at2, e2 := Program(n)
		if !reflect.DeepEqual(held, open(n)) {
			t.Fatalf("%s: the program is changed", text)
		}
		if at != at2 || e != e2 || !reflect.DeepEqual(second, kept) {
			t.Errorf("%s: two codes", text)
		}
		spoil(t, first)
		if !reflect.DeepEqual(second, kept) || !reflect.DeepEqual(held, open(n)) {
			t.Errorf("%s: two codes share memory", text)
		}
		ruin(&n)
		if !reflect.DeepEqual(second, kept) {
			t.Errorf("%s: the program is kept", text)
		}
		spoil(t, first, second)
		third, _, _ := Program(read(t, text))
		if !reflect.DeepEqual(third, kept) {
			t.Errorf("%s: a code hangs on an earlier one", text)
		}
	}
}

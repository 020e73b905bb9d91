package gen

import (
	"math/rand"
	"slices"
	"testing"

	"burin/api"
	"burin/ints"
	"burin/parse"
	"burin/safe"
	"burin/tape"
	"burin/tree"
	"burin/types"
)

func read(t *testing.T, s string) api.Node {
	t.Helper()
	n, at, e := parse.Parse(s)
	if e != api.OK {
		t.Fatalf("Parse(%q): %d at %d", s, e, at)
	}
	return n
}

func makerOf(t *testing.T, c Config, draws []uint64) *maker {
	t.Helper()
	x, e := tape.New(draws)
	if e != api.OK {
		t.Fatal(e)
	}
	return &maker{Tape: x, config: c}
}

// What is safe stays; in the place of what isn't stands the plain program.
func TestSure(t *testing.T) {
	good := read(t, "u8 g; i32 main() { print(g + 1u8); return 5i32; }")
	if !tree.Same(sure(good), good) {
		t.Error("a safe program doesn't stay")
	}
	for _, bad := range []api.Node{
		{},
		read(t, "i32 main() { i8 x; print(x + 1i8); return 0i32; }"),
		read(t, "i32 main() { print(x); return 0i32; }"),
		read(t, "i32 main() { for a = 0i32 to 16i32 { for b = 0i32 to 16i32 { for c = 0i32 to 16i32 { for d = 0i32 to 16i32 { } } } } }"),
	} {
		if n := sure(bad); !tree.Same(n, plain()) {
			t.Errorf("%s", text(t, n))
		}
	}
	if steps, _, e := safe.Check(plain()); e != api.OK || steps != 4 || tree.Size(plain()) != 7 {
		t.Errorf("plain: %d steps, %d", steps, e)
	}
}

// What is made is safe without being asked, and takes no more steps than it was allowed.
func TestSafeAsMade(t *testing.T) {
	r := rand.New(rand.NewSource(21))
	for range 3000 {
		c, draws := anyConfig(r), anyDraws(r)
		m := makerOf(t, c, draws)
		n := m.program()
		costs, at, e := safe.Costs(n)
		if e != api.OK {
			t.Fatalf("%v, %v: %d at %d\n%s", c, draws, e, at, text(t, n))
		}
		for i, allowed := range append(slices.Clone(m.costs), mainSteps+endSteps) {
			if costs[i] > allowed {
				t.Fatalf("%v, %v: function %d takes %d steps of %d", c, draws, i, costs[i], allowed)
			}
		}
		if m.inner != 0 || len(m.known) > 5 {
			t.Fatalf("%v: scopes are left open", c)
		}
	}
}

// aroundText: what expressions and statements are made within, and in its innermost Block a mark.
const aroundText = "struct s { u8 a; i16 b; u32 c; } i8 g; u8 h[5i32]; i16 i[16i32]; u16 j; i32 k[1i32]; struct s l; u32 m = 7u32; i32 n; " +
	"u16 f(u16 a, i8 *b) { return a; } u8 e(u32 a) { return 1u8; } " +
	"i32 main() { for o = 0i32 to 5i32 { for p = 3i32 to 16i32 { for q = 2147483645i32 to 2147483647i32 { for r = 9i32 to 10i32 { print(0u8); } } } } return 0i32; }"

// within aroundText a maker knows this.
func knowing(m *maker, p api.Node) {
	var fields []api.Node
	for _, n := range p.Kids {
		switch n.Kind {
		case api.Struct:
			m.structs, fields = append(m.structs, n), n.Kids
		case api.Global:
			v := variable{name: n.Name, kind: n.Type}
			if n.Type.Kind == api.TStruct {
				v.fields = fields
			}
			m.known = append(m.known, v)
		case api.Func:
			if n.Name != "main" {
				m.fns, m.costs = append(m.fns, n), append(m.costs, 2)
			}
		}
	}
	walk(p, func(n api.Node) {
		if n.Kind == api.For {
			m.known = append(m.known, variable{name: n.Name, kind: integer(api.I32), loop: true, low: n.N, high: n.M - 1})
		}
	})
	m.inner, m.ahead, m.answer = len(m.known), len(m.fns), api.I32
	m.names = 100
}

// put: the program with statements in the place of the mark.
func put(t *testing.T, p api.Node, list ...api.Node) api.Node {
	t.Helper()
	kinds, e := tree.List(p)
	if e != api.OK {
		t.Fatal(e)
	}
	n, e := tree.Put(p, slices.Index(kinds, api.Print), list)
	if e != api.OK {
		t.Fatalf("Put: %d", e)
	}
	return n
}

// anyWant: bounds of every kind: narrow ones, at the edges, about 0, of one number, none at all.
func anyWant(r *rand.Rand) want {
	w := whole(byte(r.Intn(6)))
	pick := func() int64 {
		switch r.Intn(4) {
		case 0:
			return min(max(int64(r.Intn(40)-20), w.low), w.high)
		case 1:
			return w.low + int64(r.Intn(3))
		case 2:
			return w.high - int64(r.Intn(3))
		}
		return w.low + r.Int63n(w.high-w.low+1)
	}
	if r.Intn(6) == 0 {
		return w
	}
	a, b := pick(), pick()
	return w.between(min(a, b), max(a, b))
}

// An expression has the type and the span that it is asked for, and no more nodes than it may have.
func TestExpressionsAreAsWanted(t *testing.T) {
	r := rand.New(rand.NewSource(22))
	around := read(t, aroundText)
	for range 20000 {
		w, depth, nodes := anyWant(r), r.Intn(5), 1+r.Intn(40)
		draws := anyDraws(r)
		m := makerOf(t, Config{4, 8, 4, 400}, draws)
		if r.Intn(4) > 0 {
			knowing(m, around)
		}
		n := m.expression(w, depth, nodes)
		if tree.Size(n) > nodes {
			t.Fatalf("%v: %d nodes of %d", w, tree.Size(n), nodes)
		}
		// A division by whether it is at least, or at most, some number is safe where that holds for all of it.
		one := number(api.I32, 1)
		low := node(api.Print, binary(api.Div, one, binary(api.Ge, n, number(w.t, w.low))))
		high := node(api.Print, binary(api.Div, one, binary(api.Le, tree.Copy(n), number(w.t, w.high))))
		p := put(t, around, low, high)
		if _, at, e := safe.Check(p); e != api.OK {
			t.Fatalf("%+v of depth %d: %d at %d\n%s", w, depth, e, at, text(t, p))
		}
	}
}

// Every way to make a number is safe with all that its kids may be: bounds for each operation, held against layer 1 at their edges.
func TestBoundsOfKids(t *testing.T) {
	r := rand.New(rand.NewSource(23))
	seen := map[byte]int{}
	for range 40000 {
		w := anyWant(r)
		op := api.Add + byte(r.Intn(10))
		m := makerOf(t, Config{4, 8, 4, 400}, random(r, 4))
		kids := m.operands(op, w)
		if len(kids) == 0 {
			continue
		}
		seen[op]++
		for _, x := range []int64{kids[0].low, kids[0].high, kids[0].low + (kids[0].high-kids[0].low)/2} {
			for _, y := range []int64{kids[1].low, kids[1].high, kids[1].low + (kids[1].high-kids[1].low)/2} {
				v, trap := ints.Do(op, w.t, x, y)
				if trap != api.NoTrap || !w.has(v) || !ints.Fits(kids[0].t, x) || !ints.Fits(kids[1].t, y) {
					t.Fatalf("%+v by operation %d of %+v: %d, %d make %d, %d", w, op, kids, x, y, v, trap)
				}
			}
		}
	}
	for op := api.Add; op <= api.Shr; op++ {
		if seen[op] < 100 {
			t.Errorf("operation %d was planned %d times", op, seen[op])
		}
	}
}

// Neg and Not, as above.
func TestBoundsOfOneKid(t *testing.T) {
	r := rand.New(rand.NewSource(24))
	for range 20000 {
		w := anyWant(r)
		for _, op := range []byte{api.Neg, api.Not} {
			for _, kid := range turned(op, w) {
				for _, x := range []int64{kid.low, kid.high} {
					if v, trap := ints.Un(op, w.t, x); trap != api.NoTrap || !w.has(v) || !ints.Fits(w.t, x) {
						t.Fatalf("%+v by operation %d of %+v: %d makes %d, %d", w, op, kid, x, v, trap)
					}
				}
			}
		}
	}
}

// A number is within its bounds; of no draws it is the one next to 0.
func TestLiterals(t *testing.T) {
	r := rand.New(rand.NewSource(25))
	for range 20000 {
		w := anyWant(r)
		n := makerOf(t, Config{}, random(r, 2)).literal(w)
		if n.Kind != api.Lit || n.Type != integer(w.t) || !w.has(n.N) {
			t.Fatalf("%+v: %+v", w, n)
		}
		next := makerOf(t, Config{}, nil).literal(w)
		if next.N != min(max(0, w.low), w.high) {
			t.Fatalf("%+v: %+v is not next to 0", w, next)
		}
	}
}

// Statements keep to their room, and tell no fewer steps than they take.
func TestStatementsKeepToTheirRoom(t *testing.T) {
	r := rand.New(rand.NewSource(26))
	around := read(t, aroundText)
	empty := put(t, around)
	for range 4000 {
		c := anyConfig(r)
		m := makerOf(t, c, anyDraws(r))
		knowing(m, around)
		space := room{r.Intn(300) - 10, r.Intn(60) - 10}
		list, steps := m.statements(space, r.Intn(c.Depth+1))
		if len(list) > 0 && (sizeOf(list) > space.nodes || steps > space.steps) || len(list) > c.Stats {
			t.Fatalf("%v, %v: %d statements, %d nodes, %d steps", c, space, len(list), sizeOf(list), steps)
		}
		p := put(t, around, list...)
		if len(list) == 0 && !tree.Same(p, empty) {
			t.Fatal("something was put")
		}
		took, at, e := safe.Check(p)
		none, _, _ := safe.Check(empty)
		const rounds = 5 * 13 * 2
		if e != api.OK || took > none+rounds*steps {
			t.Fatalf("%d at %d, %d steps; told were %d\n%s", e, at, took, steps, text(t, p))
		}
	}
}

// tally counts what programs are made of, by what they are good for in trying a compiler.
type tally map[string]int

func (c tally) count(t *testing.T, n api.Node) {
	t.Helper()
	info, _, e := types.Resolve(n)
	if e != api.OK {
		t.Fatal(e)
	}
	at := 0
	walk(n, func(n api.Node) {
		c.node(n)
		switch n.Kind {
		case api.Binary, api.Unary:
			c["operation "+string(rune('A'+n.Kind))+string(rune('A'+n.Op))+" of type "+string(rune('0'+info.Ints[at+1]))]++
		}
		at++
	})
}

func (c tally) node(n api.Node) {
	c["kind "+string(rune('A'+n.Kind))]++
	switch n.Kind {
	case api.Global, api.Let, api.Param:
		c["declared "+string(rune('A'+n.Kind))+string(rune('0'+n.Type.Kind))+string(rune('0'+n.Type.Int))]++
	case api.Cast, api.Lit:
		c["type "+string(rune('A'+n.Kind))+string(rune('0'+n.Type.Int))]++
	case api.Call:
		c["call "+string(rune('0'+n.N))]++
	case api.Set:
		c["set "+string(rune('A'+n.Kids[0].Kind))]++
	case api.Ref:
		c["ref "+string(rune('A'+n.Kids[0].Kind))]++
	case api.If:
		c["if "+string(rune('0'+len(n.Kids)))]++
	case api.For:
		c["rounds "+string(rune('A'+n.M-n.N))]++
	}
}

// All kinds of nodes, variables and operations, and each operation of each type, are made.
func TestAllIsMade(t *testing.T) {
	r := rand.New(rand.NewSource(27))
	c := tally{}
	for range 800 {
		n, _ := made(t, Config{4, 8, 4, 600}, random(r, 1500))
		c.count(t, n)
	}
	want := func(words ...string) {
		t.Helper()
		name := ""
		for _, w := range words {
			name += w
		}
		if c[name] < 3 {
			t.Errorf("%s: %d times", name, c[name])
		}
	}
	letter := func(b byte) string { return string(rune('A' + b)) }
	for kind := api.Prog; kind <= api.Ref; kind++ {
		want("kind ", letter(kind))
	}
	for ty := range rune(6) {
		of := string('0' + ty)
		for op := api.Add; op <= api.LOr; op++ {
			want("operation ", letter(api.Binary), letter(op), " of type ", of)
		}
		for op := api.Neg; op <= api.Bang; op++ {
			want("operation ", letter(api.Unary), letter(op), " of type ", of)
		}
		for _, kind := range []byte{api.Global, api.Let} {
			want("declared ", letter(kind), "0", of)
			want("declared ", letter(kind), "1", of)
		}
		want("declared ", letter(api.Param), "0", of)
		want("declared ", letter(api.Param), "3", of)
		want("type ", letter(api.Lit), of)
		want("type ", letter(api.Cast), of)
	}
	for _, kind := range []byte{api.Var, api.Index, api.Member, api.Deref} {
		want("set ", letter(kind))
		want("ref ", letter(kind))
	}
	for rounds := range byte(api.MaxLoop + 1) {
		want("rounds ", letter(rounds))
	}
	want("declared ", letter(api.Global), "20")
	want("declared ", letter(api.Let), "20")
	want("call 0")
	want("call 1")
	want("if 2")
	want("if 3")
}

// Names are hidden at times: a variable has that of one of the scopes about.
func TestHiding(t *testing.T) {
	r := rand.New(rand.NewSource(28))
	hidden := 0
	for range 200 {
		n, _ := made(t, Config{4, 8, 4, 600}, random(r, 1500))
		names := map[string]int{}
		walk(n, func(n api.Node) {
			switch n.Kind {
			case api.Global, api.Param, api.Let, api.For:
				names[n.Name]++
			}
		})
		for _, count := range names {
			hidden += count - 1
		}
	}
	if hidden < 100 {
		t.Errorf("%d names are hidden", hidden)
	}
}

// Arrays and structs have no more cells than a program's code is sure to be told for (P15.1).
func TestCells(t *testing.T) {
	r := rand.New(rand.NewSource(29))
	most := 0
	for range 300 {
		n, _ := made(t, Config{4, 8, 4, 2000}, random(r, api.MaxTape))
		info, _, _ := types.Resolve(n)
		sum := 0
		add := func(v types.Local) {
			if v.Type.Kind == api.TArray || v.Type.Kind == api.TStruct {
				sum += v.Cells
			}
		}
		for _, v := range info.Globals {
			add(v)
		}
		for _, f := range info.Fns {
			for _, v := range f.Locals {
				add(v)
			}
		}
		most = max(most, sum)
	}
	if most > 100 || most < 80 {
		t.Errorf("%d cells", most)
	}
}

package reduce_test

import (
	"math/rand"
	"slices"
	"testing"

	"burin/api"
	"burin/tree"
	"burin/types"
)

// ways: where each node stands, in the order of their numbers: its place among the kids, and that of all nodes about it, the outermost first.
func ways(n api.Node) [][]int {
	list := [][]int{nil}
	for i, kid := range n.Kids {
		for _, way := range ways(kid) {
			list = append(list, append([]int{i}, way...))
		}
	}
	return list
}

func at(n api.Node, way []int) api.Node {
	for _, i := range way {
		n = n.Kids[i]
	}
	return n
}

// with: the tree with other nodes in the place to which a way leads.
func with(n api.Node, way []int, list []api.Node) api.Node {
	kids := slices.Clone(n.Kids)
	if i := way[0]; len(way) > 1 {
		kids[i] = with(kids[i], way[1:], list)
	} else {
		kids = append(append(slices.Clone(kids[:i]), list...), kids[i+1:]...)
	}
	n.Kids = kids
	return n
}

// heft is the weight, counted by halving.
func heft(n api.Node) int {
	sum := 1
	if n.Kind == api.Lit {
		for v := n.N; v != 0; v /= 2 {
			sum++
		}
	}
	for _, kid := range n.Kids {
		sum += heft(kid)
	}
	return sum
}

// rule: what is said to stand in the place of a node whose type is that.
type rule func(n api.Node, typ byte) [][]api.Node

// rules are the chapter's, by the kinds of nodes.
func rules() map[byte]rule {
	none := func(api.Node, byte) [][]api.Node { return [][]api.Node{{}} }
	kids := func(n api.Node, typ byte) [][]api.Node {
		var l [][]api.Node
		for i := range n.Kids {
			l = append(l, n.Kids[i:i+1])
		}
		return append(l, []api.Node{{Kind: api.Lit, Type: api.Type{Int: typ}}})
	}
	table := map[byte]rule{}
	for _, k := range []byte{api.Struct, api.Global, api.Set, api.Print, api.Call, api.Ret} {
		table[k] = none
	}
	for _, k := range []byte{api.Unary, api.Binary, api.Cast, api.Cond} {
		table[k] = kids
	}
	table[api.Func] = func(n api.Node, typ byte) [][]api.Node {
		if n.Name == "main" {
			return nil
		}
		return none(n, typ)
	}
	table[api.If] = func(n api.Node, typ byte) [][]api.Node {
		l := append(none(n, typ), n.Kids[1].Kids)
		if len(n.Kids) == 3 {
			l = append(l, n.Kids[2].Kids)
		}
		return l
	}
	table[api.For] = func(n api.Node, typ byte) [][]api.Node { return append(none(n, typ), n.Kids[0].Kids) }
	table[api.Let] = func(n api.Node, typ byte) [][]api.Node {
		l := none(n, typ)
		if len(n.Kids) == 1 {
			n.Kids = nil
			l = append(l, []api.Node{n})
		}
		return l
	}
	table[api.Block], table[api.Lit] = blockRule, litRule
	return table
}

func blockRule(n api.Node, _ byte) [][]api.Node {
	many := len(n.Kids)
	if many < 4 {
		return nil
	}
	var first, second []api.Node
	for i, kid := range n.Kids {
		if i >= many/2 {
			first = append(first, kid)
		}
		if i < many/2 || i == many-1 && many%2 == 1 {
			second = append(second, kid)
		}
	}
	a, b := n, n
	a.Kids, b.Kids = first, second
	return [][]api.Node{{a}, {b}}
}

func litRule(n api.Node, _ byte) [][]api.Node {
	if n.N == 0 {
		return nil
	}
	a, b := n, n
	a.N, b.N = 0, n.N/2
	return [][]api.Node{{a}, {b}}
}

// model: the candidates by the words of the chapter; of how many nodes of each kind they are.
func model(t *testing.T, n api.Node, kinds *[25]int) []api.Node {
	t.Helper()
	info, _, e := types.Resolve(n)
	if e != api.OK {
		t.Fatalf("Resolve(%+v): %d", n, e)
	}
	table := rules()
	var list []api.Node
	for id, way := range ways(n) {
		m := at(n, way)
		if id == 0 || table[m.Kind] == nil {
			continue
		}
		for _, l := range table[m.Kind](m, info.Ints[id]) {
			kinds[m.Kind]++
			list = append(list, with(n, way, l))
		}
	}
	return list
}

// changed: right programs that come of one by laying another node of it, or another number, in the place of one of its nodes.
func changed(r *rand.Rand, n api.Node, tries int) []api.Node {
	var list []api.Node
	for range tries {
		all := ways(n)
		way, m := all[r.Intn(len(all))], at(n, all[r.Intn(len(all))])
		if len(way) == 0 || len(m.Kids) > 3 {
			continue
		}
		l := []api.Node{m}
		switch old := at(n, way); {
		case old.Kind == api.Lit:
			old.N = int64(r.Uint32()>>r.Intn(32)) * int64(1-2*r.Intn(2))
			l[0] = old
		case r.Intn(3) == 0:
			l = append(l, old)
		}
		next := with(n, way, l)
		if _, e := types.Check(next); e == api.OK && tree.Size(next) < 400 {
			n = next
			list = append(list, n)
		}
	}
	return list
}

// P27.1: the candidates of programs from draws, of programs that come of them, and of those in which much stands together, held against a second telling of the rules: the same ones, in the same order, each fine and of less weight.
func TestSecondTelling(t *testing.T) {
	r := rand.New(rand.NewSource(27))
	var list []api.Node
	for _, s := range dense {
		list = append(list, read(t, s))
	}
	for range 40 {
		list = append(list, drawn(t, r, 250))
	}
	for _, n := range slices.Clone(list) {
		list = append(list, changed(r, n, 30)...)
	}
	var kinds [25]int
	programs, many := 0, 0
	for _, n := range list {
		got, want := candidates(t, n), model(t, n, &kinds)
		if len(got) != len(want) {
			t.Fatalf("%+v: %d candidates; want %d", n, len(got), len(want))
		}
		weight := tree.Weight(n)
		if weight != heft(n) {
			t.Fatalf("%+v weighs %d", n, weight)
		}
		for i, c := range got {
			if !tree.Same(c, want[i]) || !tree.Fine(c) || heft(c) >= weight {
				t.Fatalf("%+v: candidate %d is %+v; want %+v", n, i, c, want[i])
			}
		}
		programs, many = programs+1, many+len(got)
	}
	t.Logf("%d programs, %d candidates, by the kinds of nodes %d", programs, many, kinds)
	for kind := range rules() {
		if kinds[kind] < 50 {
			t.Errorf("%d candidates of nodes of kind %d", kinds[kind], kind)
		}
	}
}

// dense: programs in which much stands close together.
var dense = []string{
	"struct s { i8 x; u8 y; } u8 g = 3u8; i8 a[3i32]; struct s v; " +
		"i8 f(i8 p, u8 *q) { *q = *q + g; if (p > 1i8) { print(*q); return p; } else { print(p); } } " +
		"i32 main() { i8 x = -1i8; u8 y[2i32]; for i = 0i32 to 3i32 { a[i] = f(x, &y[1i32]); x = x / 2i8; print(x ? a[i] : v.x); } " +
		"v.y = g; f(~x, &v.y); print(!x || v.y && 1u8 << 3i8 == 8u8); print(a[(u8)0i32] % 3i8); return (i32)x; }",
	"u8 f(u8 *p) { *p = *p + 1u8; return *p; } u8 g(u8 a, u8 b, u8 *c, u8 d) { b = f(&b); f(&*c); d = f(&a); print(a); print(b); print(*c); print(d); b = b * 2u8; f(&b); return b; } " +
		"i32 main() { u8 x = 30u8; u8 z = 1u8; x = g(10u8, x, &x, x); for i = 0i32 to 2i32 { u8 y; u8 x = x; y = g(y, z, &y, x); z = g(x, y, &z, z); u8 b[4i32]; b[i] = f(&b[3i32]); print(b[3i32]); } print(x); print(z); }",
	"u32 f(u32 n) { u32 s; for i = 0i32 to 4i32 { for j = 3i32 to 4i32 { print(j); } s = s + n; if ((u32)i == n) { return s; } else { s = s * 2u32 - (u32)i; } } return 100u32; } " +
		"i32 main() { u32 x; for n = 0i32 to 5i32 { x = f((u32)n); print(x); x = x && (n || x) ? x : (u32)n; if (x) { u32 x = x + (u32)n; print(x); } } return (i32)x; }",
	"u8 m[16i32]; u16 h; i32 main() { for i = 0i32 to 16i32 { m[i] = (u8)(i * i); } for i = 1i32 to 15i32 { h = h * 31u16 + (u16)m[m[i] % 16u8]; u16 k[3i32]; k[h % 3u16] = h; print(k[0i32] + k[1i32] * 2u16 + k[2i32] * 3u16); } return (i32)h % 7i32; }",
	"u32 k = 9u32; u32 f(u32 x, u32 y, u32 z) { return x - y * z; } u32 g(u32 x, u32 *y) { *y = x ^ *y; if (x & 1u32) { return *y; } return x; } " +
		"i32 main() { u32 a = 1u32; u32 b = k; u32 c = b; for i = 0i32 to 6i32 { u32 d = a; a = b; b = f(c, d, a); c = f(c, a, d); d = f(b, c, a); print(a - b); print(b - a); print(d); a = g(d, &k); b = g(c, &k); print(k); if (2u8 < 3u8) { c = c + d; } else { c = a; } } print(a ^ b ^ c); return (i32)(k % 100u32); }",
}

package tree

import (
	"bytes"
	"fmt"
	"math"
	"math/rand"
	"reflect"
	"testing"

	"burin/api"
)

// The signatures that the chapter lists.
var (
	_ func(api.Node) int                                    = Size
	_ func(api.Node) int                                    = Depth
	_ func(api.Node) bool                                   = Fine
	_ func(api.Node) int                                    = Weight
	_ func(api.Node, api.Node) bool                         = Same
	_ func(api.Node) api.Node                               = Copy
	_ func(api.Node, int) (api.Node, api.Errno)             = At
	_ func(api.Node, int, []api.Node) (api.Node, api.Errno) = Put
	_ func(api.Node) ([]byte, api.Errno)                    = List
)

func lit(v int64) api.Node { return api.Node{Kind: api.Lit, N: v} }

func block(kids ...api.Node) api.Node { return api.Node{Kind: api.Block, Kids: kids} }

// chain: nodes of which each stands within the one ahead of it.
func chain(depth int) api.Node {
	n := lit(1)
	for range depth - 1 {
		n = block(n)
	}
	return n
}

// broad: a root and all others beside one another.
func broad(size int) api.Node {
	kids := make([]api.Node, size-1)
	for i := range kids {
		kids[i] = lit(int64(i))
	}
	return block(kids...)
}

// full: a tree of that depth and that size.
func full(depth, size int) api.Node {
	n := broad(size - depth + 2)
	for range depth - 2 {
		n = block(n)
	}
	return n
}

// doubled: 2^levels - 1 nodes, whose memory is shared.
func doubled(levels int) api.Node {
	n := lit(1)
	for range levels - 1 {
		n = block(n, n)
	}
	return n
}

// ring: a tree without an end.
func ring() api.Node {
	kids := make([]api.Node, 2)
	kids[0] = api.Node{Kind: api.Block, Kids: kids}
	kids[1] = lit(1)
	return kids[0]
}

// example is the chapter's.
func example() api.Node {
	return block(api.Node{Kind: api.Ret, Kids: []api.Node{lit(5)}}, api.Node{Kind: api.Ret, Kids: []api.Node{lit(0)}})
}

// random trees have nodes of all kinds, with all fields.
func random(r *rand.Rand, depth int) api.Node {
	n := api.Node{
		Kind: byte(r.Intn(26)), Op: byte(r.Intn(3)), Type: api.Type{Kind: byte(r.Intn(4)), Int: byte(r.Intn(6)), N: r.Intn(3)},
		N: r.Int63()>>r.Intn(63) - r.Int63()>>r.Intn(63), M: int64(r.Intn(3)), Name: string(rune('a' + r.Intn(3))), Field: string(rune('a' + r.Intn(3))),
	}
	if depth > 1 {
		for range r.Intn(4) {
			n.Kids = append(n.Kids, random(r, depth-1))
		}
	}
	return n
}

type entry struct {
	node  api.Node
	depth int
}

// numbered goes by a stack of its own, so that the tests number no node as the package does.
func numbered(n api.Node) []entry {
	var list []entry
	stack := []entry{{n, 1}}
	for len(stack) > 0 {
		top := stack[len(stack)-1]
		stack = stack[:len(stack)-1]
		list = append(list, top)
		for i := len(top.node.Kids) - 1; i >= 0; i-- {
			stack = append(stack, entry{top.node.Kids[i], top.depth + 1})
		}
	}
	return list
}

// bitsOf counts by halving.
func bitsOf(v int64) int {
	if v == math.MinInt64 {
		return 64
	}
	count := 0
	for v != 0 {
		v /= 2
		count++
	}
	return count
}

// told writes all of a tree; nil and empty lists are told alike.
func told(n api.Node) string {
	s := fmt.Sprintf("<%d %d %v %d %d %q %q", n.Kind, n.Op, n.Type, n.N, n.M, n.Name, n.Field)
	for _, kid := range n.Kids {
		s += told(kid)
	}
	return s + ">"
}

// putModel numbers as it copies.
func putModel(n api.Node, next *int, id int, list []api.Node) []api.Node {
	number := *next
	*next++
	if number == id {
		*next += len(numbered(n)) - 1
		return list
	}
	var kids []api.Node
	for _, kid := range n.Kids {
		kids = append(kids, putModel(kid, next, id, list)...)
	}
	n.Kids = kids
	return []api.Node{n}
}

// spoil writes over all memory of a tree, spare room too.
func spoil(n *api.Node) {
	all := n.Kids[:cap(n.Kids)]
	for i := range all {
		spoil(&all[i])
		all[i] = api.Node{Kind: 99, Name: "spoilt", Kids: []api.Node{{Kind: 98}}}
	}
	n.Kind = 97
}

// roomy gives all lists of a tree spare room with nodes in it.
func roomy(n api.Node) api.Node {
	kids := make([]api.Node, 0, len(n.Kids)+2)
	for _, kid := range n.Kids {
		kids = append(kids, roomy(kid))
	}
	n.Kids = kids
	spare := kids[:cap(kids)]
	for i := len(kids); i < len(spare); i++ {
		spare[i] = lit(77)
	}
	return n
}

// whole tells a tree with the spare room of its lists.
func whole(n api.Node) string {
	s := fmt.Sprintf("<%d %d %v %d %d %q %q %d", n.Kind, n.Op, n.Type, n.N, n.M, n.Name, n.Field, len(n.Kids))
	for _, kid := range n.Kids[:cap(n.Kids)] {
		s += whole(kid)
	}
	return s + ">"
}

func zero(n api.Node) bool { return reflect.DeepEqual(n, api.Node{}) }

// The chapter's example.
func TestExample(t *testing.T) {
	n := example()
	if Size(n) != 5 || Depth(n) != 3 || !Fine(n) || Weight(n) != 5+3 {
		t.Errorf("Size %d, Depth %d, Fine %v, Weight %d", Size(n), Depth(n), Fine(n), Weight(n))
	}
	if m, e := At(n, 2); e != api.OK || told(m) != told(lit(5)) {
		t.Errorf("At(2) = %v, %d", m, e)
	}
	if m, e := Put(n, 1, nil); e != api.OK || told(m) != told(block(n.Kids[1])) {
		t.Errorf("Put = %v, %d", m, e)
	}
	if Weight(api.Node{Kind: api.Ret, Kids: []api.Node{lit(5)}}) != 2+3 {
		t.Error("Weight of a Ret of the Lit 5")
	}
}

// P3.1 to P3.3, P3.5, of trees of all shapes against what the tests reckon.
func TestRandomTrees(t *testing.T) {
	r := rand.New(rand.NewSource(3))
	for range 400 {
		n := random(r, 1+r.Intn(6))
		list := numbered(n)
		depth, weight := 0, len(list)
		var kinds []byte
		for i, x := range list {
			depth = max(depth, x.depth)
			if x.node.Kind == api.Lit {
				weight += bitsOf(x.node.N)
			}
			kinds = append(kinds, x.node.Kind)
			if m, e := At(n, i); e != api.OK || told(m) != told(x.node) {
				t.Fatalf("At(%d) of %s = %s, %d", i, told(n), told(m), e)
			}
		}
		if Size(n) != len(list) || Depth(n) != depth || !Fine(n) || Weight(n) != weight {
			t.Fatalf("%s: Size %d, Depth %d, Fine %v, Weight %d; want %d, %d, true, %d", told(n), Size(n), Depth(n), Fine(n), Weight(n), len(list), depth, weight)
		}
		if l, e := List(n); e != api.OK || !bytes.Equal(l, kinds) {
			t.Fatalf("List of %s = %v, %d", told(n), l, e)
		}
		if c := Copy(n); told(c) != told(n) || !Same(c, n) {
			t.Fatalf("Copy of %s = %s", told(n), told(c))
		}
		if m := random(r, 3); Same(n, m) != (told(n) == told(m)) {
			t.Fatalf("Same of %s and %s", told(n), told(m))
		}
	}
}

// P3.4, of trees of all shapes against what the tests reckon.
func TestRandomPuts(t *testing.T) {
	r := rand.New(rand.NewSource(4))
	for range 150 {
		n := random(r, 1+r.Intn(5))
		for id := 1; id < Size(n); id++ {
			var list []api.Node
			for range r.Intn(4) {
				list = append(list, random(r, 1+r.Intn(3)))
			}
			next := 0
			want := putModel(n, &next, id, list)[0]
			if m, e := Put(n, id, list); e != api.OK || told(m) != told(want) {
				t.Fatalf("Put(%s, %d, %d nodes) = %s, %d; want %s", told(n), id, len(list), told(m), e, told(want))
			}
		}
	}
}

// P3.1 at the limits: what is told, and whether it is fine.
func TestLimits(t *testing.T) {
	for _, r := range []struct {
		name        string
		n           api.Node
		size, depth int
		fine        bool
	}{
		{"zero", api.Node{}, 1, 1, true},
		{"deep", chain(api.MaxDepth), api.MaxDepth, api.MaxDepth, true},
		{"one deeper", chain(api.MaxDepth + 1), api.MaxDepth + 1, api.MaxDepth + 1, false},
		{"two deeper", chain(api.MaxDepth + 2), api.MaxDepth + 2, api.MaxDepth + 1, false},
		{"far deeper", chain(1 << 16), api.MaxNodes + 1, api.MaxDepth + 1, false},
		{"great", broad(api.MaxNodes), api.MaxNodes, 2, true},
		{"one greater", broad(api.MaxNodes + 1), api.MaxNodes + 1, 2, false},
		{"two greater", broad(api.MaxNodes + 2), api.MaxNodes + 1, 2, false},
		{"far greater", broad(1 << 18), api.MaxNodes + 1, 2, false},
		{"both", full(api.MaxDepth, api.MaxNodes), api.MaxNodes, api.MaxDepth, true},
		{"both, one greater", full(api.MaxDepth, api.MaxNodes+1), api.MaxNodes + 1, api.MaxDepth, false},
		{"both, one deeper", full(api.MaxDepth+1, api.MaxNodes), api.MaxNodes, api.MaxDepth + 1, false},
		{"deep behind great", block(broad(api.MaxNodes), chain(api.MaxDepth+5)), api.MaxNodes + 1, api.MaxDepth + 1, false},
		{"doubled", doubled(11), 2047, 11, true},
		{"doubled too often", doubled(13), api.MaxNodes + 1, 13, false},
		{"doubled far too often", doubled(200), api.MaxNodes + 1, api.MaxDepth + 1, false},
		{"ring", ring(), api.MaxNodes + 1, api.MaxDepth + 1, false},
	} {
		if Size(r.n) != r.size || Depth(r.n) != r.depth || Fine(r.n) != r.fine {
			t.Errorf("%s: Size %d, Depth %d, Fine %v", r.name, Size(r.n), Depth(r.n), Fine(r.n))
		}
		if w := Weight(r.n); r.fine != (w != 0) {
			t.Errorf("%s: Weight %d", r.name, w)
		}
		checkLimits(t, r.name, r.n, r.fine, r.size)
	}
}

// checkLimits: P3.3 to P3.5 of a tree at a limit, with all numbers.
func checkLimits(t *testing.T, name string, n api.Node, fine bool, size int) {
	t.Helper()
	kinds, e := List(n)
	if fine && (e != api.OK || len(kinds) != size) || !fine && (e != api.ErrLong || len(kinds) != 0) {
		t.Errorf("%s: List of %d, %d", name, len(kinds), e)
	}
	for _, id := range []int{math.MinInt, -1, 0, 1, size - 1, size, math.MaxInt} {
		there := fine && id >= 0 && id < size
		m, e := At(n, id)
		if want := errorOf(fine, there); e != want || e != api.OK && !zero(m) {
			t.Errorf("%s: At(%d) is %d; want %d", name, id, e, want)
		}
		if there && m.Kind != kinds[id] {
			t.Errorf("%s: At(%d) has the kind %d", name, id, m.Kind)
		}
		m, e = Put(n, id, nil)
		if want := errorOf(fine, there && id > 0); e != want || e != api.OK && !zero(m) {
			t.Errorf("%s: Put(%d) is %d; want %d", name, id, e, want)
		}
	}
}

func errorOf(fine, there bool) api.Errno {
	if !fine {
		return api.ErrLong
	}
	if !there {
		return api.ErrNone
	}
	return api.OK
}

// P3.1: bits of all numbers, and of those of a Lit alone.
func TestWeight(t *testing.T) {
	for _, r := range []struct {
		v    int64
		bits int
	}{
		{0, 0}, {1, 1}, {-1, 1}, {2, 2}, {-2, 2}, {3, 2}, {4, 3}, {5, 3}, {7, 3}, {8, 4}, {-8, 4}, {255, 8}, {256, 9}, {-128, 8},
		{1<<31 - 1, 31}, {-1 << 31, 32}, {1<<32 - 1, 32}, {math.MaxInt64, 63}, {-math.MaxInt64, 63}, {math.MinInt64, 64},
	} {
		if w := Weight(lit(r.v)); w != 1+r.bits {
			t.Errorf("Weight of the Lit %d = %d", r.v, w)
		}
		if w := Weight(block(lit(r.v), lit(1), lit(r.v))); w != 5+2*r.bits {
			t.Errorf("Weight of two Lits %d = %d", r.v, w)
		}
		for kind := range 256 {
			if w := Weight(api.Node{Kind: byte(kind), N: r.v, M: r.v}); byte(kind) != api.Lit && w != 1 {
				t.Errorf("Weight of the kind %d with %d = %d", kind, r.v, w)
			}
		}
		if w := Weight(api.Node{Kind: api.Lit, M: r.v, Type: api.Type{N: 5}}); w != 1 {
			t.Errorf("Weight of a Lit with M %d = %d", r.v, w)
		}
	}
}

// P3.2: one field that differs, at the root or far within, is enough.
func TestSame(t *testing.T) {
	for i, change := range []func(*api.Node){
		func(n *api.Node) { n.Kind++ },
		func(n *api.Node) { n.Op++ },
		func(n *api.Node) { n.Type.Kind++ },
		func(n *api.Node) { n.Type.Int++ },
		func(n *api.Node) { n.Type.N++ },
		func(n *api.Node) { n.N++ },
		func(n *api.Node) { n.M++ },
		func(n *api.Node) { n.Name += "a" },
		func(n *api.Node) { n.Field += "a" },
		func(n *api.Node) { n.Name, n.Field = n.Field, n.Name },
		func(n *api.Node) { n.N, n.M = n.M, n.N },
		func(n *api.Node) { n.Kids = append(n.Kids, lit(0)) },
		func(n *api.Node) { n.Kids = nil },
		func(n *api.Node) { n.Kids[0], n.Kids[1] = n.Kids[1], n.Kids[0] },
		func(n *api.Node) { n.Kids[1].N++ },
		func(n *api.Node) { n.Kids = []api.Node{block(n.Kids...)} },
	} {
		n := api.Node{Kind: 3, Op: 4, Type: api.Type{Kind: 1, Int: 2, N: 3}, N: 5, M: 6, Name: "n", Field: "f", Kids: []api.Node{lit(7), lit(8)}}
		for _, about := range []func(api.Node) api.Node{
			func(n api.Node) api.Node { return n },
			func(n api.Node) api.Node { return block(lit(1), block(n)) },
			func(n api.Node) api.Node { return block(n, lit(1)) },
		} {
			a, b, c := about(Copy(n)), Copy(n), about(Copy(n))
			change(&b)
			b = about(b)
			if !Same(a, a) || !Same(a, c) || Same(a, b) || Same(b, a) || !Same(b, b) {
				t.Errorf("change %d", i)
			}
		}
	}
	if !Same(api.Node{}, api.Node{Kids: []api.Node{}}) || !Same(block(), api.Node{Kind: api.Block}) {
		t.Error("no list and an empty one differ")
	}
}

// P3.2: trees that aren't fine are copied and held against each other too.
func TestGreatCopies(t *testing.T) {
	for _, n := range []api.Node{chain(1 << 16), broad(1 << 16), full(300, 9000)} {
		c := Copy(n)
		if !Same(n, c) {
			t.Error("a copy that isn't the same")
		}
		last := &c
		for len(last.Kids) > 0 {
			last = &last.Kids[len(last.Kids)-1]
		}
		last.N++
		if Same(n, c) || Same(c, n) {
			t.Error("the last node isn't looked at")
		}
	}
}

// P3.4: which nodes stand there, and in which order.
func TestPut(t *testing.T) {
	n := block(lit(1), block(lit(2), lit(3)), lit(4))
	a, b, c := lit(10), block(lit(11)), lit(12)
	for _, r := range []struct {
		id   int
		list []api.Node
		want api.Node
	}{
		{1, nil, block(block(lit(2), lit(3)), lit(4))},
		{1, []api.Node{}, block(block(lit(2), lit(3)), lit(4))},
		{2, nil, block(lit(1), lit(4))},
		{3, nil, block(lit(1), block(lit(3)), lit(4))},
		{5, nil, block(lit(1), block(lit(2), lit(3)))},
		{1, []api.Node{a}, block(a, block(lit(2), lit(3)), lit(4))},
		{2, []api.Node{a}, block(lit(1), a, lit(4))},
		{4, []api.Node{b}, block(lit(1), block(lit(2), b), lit(4))},
		{5, []api.Node{b}, block(lit(1), block(lit(2), lit(3)), b)},
		{1, []api.Node{a, b, c}, block(a, b, c, block(lit(2), lit(3)), lit(4))},
		{2, []api.Node{a, b, c}, block(lit(1), a, b, c, lit(4))},
		{3, []api.Node{c, b, a}, block(lit(1), block(c, b, a, lit(3)), lit(4))},
		{5, []api.Node{b, b}, block(lit(1), block(lit(2), lit(3)), b, b)},
		{3, []api.Node{n}, block(lit(1), block(n, lit(3)), lit(4))},
	} {
		if m, e := Put(n, r.id, r.list); e != api.OK || told(m) != told(r.want) {
			t.Errorf("Put(%d, %d nodes) = %s, %d", r.id, len(r.list), told(m), e)
		}
	}
}

// P3.4: what comes of it at the limits and one beyond; and which error goes first.
func TestPutLimits(t *testing.T) {
	few := block(lit(1), block(lit(2)), lit(3))
	fit := make([]api.Node, api.MaxNodes-4)
	crowd := make([]api.Node, 3*api.MaxNodes)
	for _, r := range []struct {
		name string
		n    api.Node
		id   int
		list []api.Node
		want api.Errno
	}{
		{"deep", chain(api.MaxDepth), api.MaxDepth - 1, []api.Node{lit(1)}, api.OK},
		{"as deep as can be", few, 3, []api.Node{chain(api.MaxDepth - 2)}, api.OK},
		{"one deeper", few, 3, []api.Node{chain(api.MaxDepth - 1)}, api.ErrLong},
		{"one deeper, the last of several", few, 3, []api.Node{lit(1), lit(2), chain(api.MaxDepth - 1)}, api.ErrLong},
		{"one deeper at the end", chain(api.MaxDepth), api.MaxDepth - 1, []api.Node{block(lit(1))}, api.ErrLong},
		{"deep, but fine alone", few, 1, []api.Node{chain(api.MaxDepth)}, api.ErrLong},
		{"great", few, 1, fit, api.OK},
		{"one greater", few, 1, append(fit, lit(1)), api.ErrLong},
		{"great, of one node", few, 2, []api.Node{broad(api.MaxNodes - 3)}, api.OK},
		{"one greater, of one node", few, 2, []api.Node{broad(api.MaxNodes - 2)}, api.ErrLong},
		{"as great as it was", broad(api.MaxNodes), 7, []api.Node{lit(1)}, api.OK},
		{"one greater than it was", broad(api.MaxNodes), 7, []api.Node{lit(1), lit(2)}, api.ErrLong},
		{"far greater", few, 1, crowd, api.ErrLong},
		{"a deep node for a deep one", block(chain(api.MaxDepth - 1)), 1, []api.Node{chain(api.MaxDepth - 1)}, api.OK},
		{"a node too deep", few, 1, []api.Node{chain(api.MaxDepth + 1)}, api.ErrLong},
		{"a node too great", few, 1, []api.Node{broad(api.MaxNodes + 1)}, api.ErrLong},
		{"the last node too deep, no such number", few, 9, []api.Node{lit(1), chain(api.MaxDepth + 1)}, api.ErrLong},
		{"a node too great, the root", few, 0, []api.Node{broad(api.MaxNodes + 1), lit(1)}, api.ErrLong},
		{"a node without end", few, 0, []api.Node{ring()}, api.ErrLong},
		{"too deep, no such number", chain(api.MaxDepth + 1), -1, nil, api.ErrLong},
		{"too deep, would be fine behind it", chain(api.MaxDepth + 1), 5, nil, api.ErrLong},
		{"too great, would be fine behind it", broad(api.MaxNodes + 1), 5, nil, api.ErrLong},
		{"no such number, too great behind it", few, 5, crowd, api.ErrNone},
		{"below 0, too great behind it", few, -1, crowd, api.ErrNone},
		{"the root, too great behind it", few, 0, crowd, api.ErrNone},
		{"the root by one", few, 0, []api.Node{lit(1)}, api.ErrNone},
		{"the root by none", few, 0, nil, api.ErrNone},
		{"the root alone", lit(1), 0, nil, api.ErrNone},
		{"behind a root alone", lit(1), 1, nil, api.ErrNone},
	} {
		m, e := Put(r.n, r.id, r.list)
		if e != r.want || e != api.OK && !zero(m) {
			t.Errorf("%s: %d; want %d", r.name, e, r.want)
		}
		if e == api.OK && !Fine(m) {
			t.Errorf("%s: not fine", r.name)
		}
	}
}

// Memory: what is handed in isn't changed, nor its spare room.
func TestArguments(t *testing.T) {
	r := rand.New(rand.NewSource(5))
	for range 60 {
		n, m := roomy(random(r, 4)), roomy(random(r, 3))
		list := []api.Node{m, m, lit(66), lit(67)}
		before, beforeList := whole(n), whole(block(list...))
		Size(n)
		Depth(n)
		Fine(n)
		Weight(n)
		Same(n, m)
		Copy(n)
		List(n)
		for id := -1; id <= Size(n); id++ {
			At(n, id)
			Put(n, id, list[:3])
			Put(n, id, list[:0])
		}
		if whole(n) != before || whole(block(list...)) != beforeList {
			t.Fatal("an argument is changed")
		}
	}
}

// Memory: answers share none with arguments, with each other, and within themselves; P2: they stay the same.
func TestAnswersAreNew(t *testing.T) {
	r := rand.New(rand.NewSource(6))
	for range 60 {
		n, m := roomy(random(r, 4)), roomy(random(r, 3))
		list := []api.Node{m, m}
		answers := func() []api.Node {
			all := []api.Node{Copy(n)}
			for id := range Size(n) {
				a, _ := At(n, id)
				b, _ := Put(n, id, list)
				c, _ := Put(n, id, nil)
				all = append(all, a, b, c)
			}
			return all
		}
		first, second := answers(), answers()
		before := whole(n) + whole(m)
		for i := range first {
			want := told(second[i])
			if told(first[i]) != want {
				t.Fatal("another answer of the same arguments")
			}
			spoil(&first[i])
			if told(second[i]) != want || whole(n)+whole(m) != before {
				t.Fatal("an answer shares memory")
			}
		}
		spoil(&n)
		spoil(&m)
		for i := range second {
			if bytes.Contains([]byte(whole(second[i])), []byte("spoilt")) {
				t.Fatal("an argument is kept")
			}
		}
	}
}

// Memory: a node that is put twice is there twice.
func TestPutTwice(t *testing.T) {
	twin := block(lit(1), lit(2))
	m, _ := Put(block(lit(9)), 1, []api.Node{twin, twin})
	spoil(&m.Kids[0])
	if told(m.Kids[1]) != told(twin) {
		t.Error("two nodes of an answer share memory")
	}
	c := Copy(block(twin, twin))
	spoil(&c.Kids[1])
	if told(c.Kids[0]) != told(twin) {
		t.Error("two nodes of a copy share memory")
	}
}

// Memory: each answer of List is new.
func TestListIsNew(t *testing.T) {
	n := example()
	first, _ := List(n)
	second, _ := List(n)
	for i := range first[:cap(first)] {
		first[:cap(first)][i] = 99
	}
	want := []byte{api.Block, api.Ret, api.Lit, api.Ret, api.Lit}
	if third, _ := List(n); !bytes.Equal(second, want) || !bytes.Equal(third, want) {
		t.Error("answers share memory")
	}
}

package reduce_test

import (
	"math/rand"
	"reflect"
	"slices"
	"testing"

	"burin/api"
	"burin/oracle"
	"burin/reduce"
	"burin/tree"
	"burin/types"
)

// roomy: the same tree, each of whose lists has room behind it, which holds nodes that nobody should write over.
func roomy(n api.Node) api.Node {
	kids := make([]api.Node, len(n.Kids)+2)
	for i := range kids {
		kids[i] = api.Node{Kind: 99}
	}
	for i, kid := range n.Kids {
		kids[i] = roomy(kid)
	}
	n.Kids = kids[:len(n.Kids)]
	return n
}

// whole: a tree with the room behind its lists.
func whole(n api.Node) api.Node {
	n.Kids = slices.Clone(n.Kids[:cap(n.Kids)])
	for i, kid := range n.Kids {
		n.Kids[i] = whole(kid)
	}
	return n
}

// blot writes over all of a tree, the room behind its lists too.
func blot(n api.Node) {
	for _, kid := range n.Kids {
		blot(kid)
	}
	kids := n.Kids[:cap(n.Kids)]
	for i := range kids {
		kids[i] = api.Node{Kind: 88, Name: "blot", Kids: []api.Node{{Kind: 77}}}
	}
}

// copies of all trees of a list.
func copies(list []api.Node) []api.Node {
	var fresh []api.Node
	for _, n := range list {
		fresh = append(fresh, tree.Copy(n))
	}
	return fresh
}

// P2, and the rules of memory, of Candidates: the same answer each time; what is handed in stays as it was, its spare room too, and may be written over behind the call; so may each candidate, and the list, without a change of another one.
func TestMemoryOfCandidates(t *testing.T) {
	r := rand.New(rand.NewSource(30))
	many := 0
	for n := range 60 {
		p := drawn(t, r, 120)
		if n < len(dense) {
			p = read(t, dense[n])
		}
		want := copies(candidates(t, p))
		given := roomy(p)
		before := whole(given)
		first, second := candidates(t, given), candidates(t, given)
		if !reflect.DeepEqual(whole(given), before) {
			t.Fatalf("%s: what was handed in is changed", text(t, p))
		}
		blot(given)
		for i, c := range first {
			if !tree.Same(c, want[i]) {
				t.Fatalf("%s: candidate %d shares memory with what was handed in or with one ahead of it, or isn't always the same", text(t, p), i)
			}
			blot(c)
		}
		first = first[:cap(first)]
		for i := range first {
			first[i] = api.Node{Kind: 66}
		}
		for i, c := range slices.Backward(second) {
			if !tree.Same(c, want[i]) {
				t.Fatalf("%s: candidate %d shares memory with an earlier answer, or with one behind it", text(t, p), i)
			}
			blot(c)
		}
		many += len(want)
	}
	if many < 3000 {
		t.Errorf("%d candidates", many)
	}
}

// P2, and the rules of memory, of Reduce: of programs that are made lighter, and of such as stay, right ones and others.
func TestMemoryOfReduce(t *testing.T) {
	r := rand.New(rand.NewSource(31))
	steps, stayed := 0, 0
	for n := range 200 {
		row := table()[n%7]
		p, passes, faults := planted(t, r, row.s, 60), row.passes, row.fault
		switch n % 4 {
		case 0:
			faults = 0
		case 1:
			p.Kids = p.Kids[1:]
		}
		m, k := reduce.Reduce(p, passes, faults)
		want := tree.Copy(m)
		if k == 0 {
			stayed++
			want = tree.Copy(p)
		}
		given := roomy(p)
		before := whole(given)
		first, one := reduce.Reduce(given, passes, faults)
		second, two := reduce.Reduce(given, passes, faults)
		if !reflect.DeepEqual(whole(given), before) {
			t.Fatalf("%+v: what was handed in is changed", p)
		}
		blot(given)
		if !tree.Same(first, want) || one != k || two != k {
			t.Fatalf("%+v: an answer shares memory with what was handed in, or isn't always the same: %d, %d and %d steps", p, k, one, two)
		}
		blot(first)
		if !tree.Same(second, want) {
			t.Fatalf("%+v: an answer shares memory with an earlier one", p)
		}
		blot(m)
		steps += k
	}
	if steps < 500 || stayed < 50 {
		t.Errorf("%d steps, %d stayed", steps, stayed)
	}
}

// refused: of a tree that is no right program Candidates answers what types.Resolve says of it, and no list; Reduce the same tree.
func refused(t *testing.T, n api.Node) api.Errno {
	t.Helper()
	_, _, want := types.Resolve(n)
	if list, e := reduce.Candidates(n); e != want || want == api.OK || len(list) != 0 {
		t.Fatalf("%d candidates, %d; want %d", len(list), e, want)
	}
	for _, passes := range []byte{0, all, 255} {
		for _, faults := range []byte{0, passes, 255} {
			if m, k := reduce.Reduce(n, passes, faults); k != 0 || !tree.Same(m, n) {
				t.Fatalf("Reduce(.., %d, %d): %d steps; want the same tree", passes, faults, k)
			}
		}
	}
	return want
}

// P1, P27.1, P27.2: trees that are no program.
func TestNoPrograms(t *testing.T) {
	deep := api.Node{Kind: api.Block}
	for range 60000 {
		deep = api.Node{Kind: api.Block, Kids: []api.Node{deep}}
	}
	fine := read(t, dense[0])
	for _, n := range []api.Node{
		{}, {Kind: 255}, {Kind: api.Prog}, {Kind: api.Lit, N: 5}, {Kind: api.Func, Name: "main"}, deep, fine.Kids[0], fine.Kids[len(fine.Kids)-1],
		{Kind: api.Prog, Kids: []api.Node{fine}}, {Kind: api.Prog, Kids: slices.Repeat([]api.Node{{Kind: api.Global, Name: "x"}}, 10*api.MaxNodes)},
		{Kind: api.Prog, Kids: fine.Kids[:1]}, {Kind: api.Prog, Kids: slices.Concat(fine.Kids, fine.Kids)},
	} {
		refused(t, n)
	}
	for _, r := range []struct {
		s string
		e api.Errno
	}{
		{"", api.ErrForm}, {"i32 f() { }", api.ErrForm}, {"i32 main() { x = 1i32; }", api.ErrName}, {"i32 main() { print(1i32 + 1u8); }", api.ErrType},
		{"i32 main() { main(); }", api.ErrCall}, {"i32 main() { for i = 0i32 to 17i32 { } }", api.ErrArg}, {"u8 x; u8 x; i32 main() { print(2i32 + 3i32); }", api.ErrTwice},
	} {
		if e := refused(t, read(t, r.s)); e != r.e {
			t.Errorf("%s: %d; want %d", r.s, e, r.e)
		}
	}
	r := rand.New(rand.NewSource(32))
	errors := map[api.Errno]int{}
	for range 1500 {
		n := drawn(t, r, 60)
		for range 1 + r.Intn(2) {
			all := ways(n)
			m := at(n, all[r.Intn(len(all))])
			if r.Intn(2) == 0 {
				m = api.Node{Kind: byte(r.Intn(26)), Op: byte(r.Intn(20)), N: int64(r.Intn(3)), Name: "x", Kids: m.Kids}
			}
			n = with(n, all[1+r.Intn(len(all)-1)], []api.Node{m})
		}
		if _, e := types.Check(n); e != api.OK {
			errors[refused(t, n)]++
			continue
		}
		candidates(t, n)
		reduce.Reduce(n, byte(r.Intn(256)), byte(r.Intn(256)))
	}
	t.Logf("errors %v", errors)
	if len(errors) < 5 || errors[api.ErrForm] < 100 {
		t.Errorf("errors %v", errors)
	}
}

// P27.1, P27.2: programs that are right, but not safe, or too much for the machine: they have candidates, and stay as they are.
func TestUnsafe(t *testing.T) {
	expectMain(t, "print(1i32 / 0i32);", "", "print(1i32);", "print(0i32);", "print(0i32);", "print(0i32 / 0i32);", "print(0i32 / 0i32);")
	for _, s := range []string{
		mainOf("print(1i32 / 0i32);"),
		mainOf("print(2i32 + 3i32); print(1i32 / 0i32);"),
		mainOf("print(2i32 + 3i32); u8 x; print(x / x);"),
		mainOf("print(2i32 + 3i32); for i = 0i32 to 16i32 { for j = 0i32 to 16i32 { for k = 0i32 to 16i32 { print(1u8); print(2u8); } } }"),
	} {
		n := read(t, s)
		if v := oracle.Judge(n, oracle.Fold, oracle.Fold); v.Kind != oracle.Invalid {
			t.Fatalf("%s: %+v", s, v)
		}
		if m, k := reduced(t, n, oracle.Fold, oracle.Fold); k != 0 || !tree.Same(m, n) {
			t.Errorf("%s: %d steps", s, k)
		}
	}
}

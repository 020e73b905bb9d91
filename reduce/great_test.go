package reduce_test

import (
	"strconv"
	"strings"
	"testing"

	"burin/api"
	"burin/oracle"
	"burin/reduce"
	"burin/tree"
)

const least = "i32 main(){print(0i32+0i32);}"

// P27.1: as many nodes as there may be: they have candidates, with one node more there are none.
func TestGreatCandidates(t *testing.T) {
	var b strings.Builder
	for i := range 444 {
		b.WriteString("struct s" + strconv.Itoa(i) + "{u8 a;i8 b;u16 c;i16 d;u32 e;i32 f;u8 g;i8 h;}")
	}
	n := read(t, b.String()+"i32 g; i32 main() { }")
	if tree.Size(n) != api.MaxNodes {
		t.Fatalf("%d nodes", tree.Size(n))
	}
	list := candidates(t, n)
	if len(list) != 445 {
		t.Fatalf("%d candidates", len(list))
	}
	for i, c := range list {
		want := api.Node{Kind: api.Prog, Kids: append(append([]api.Node{}, n.Kids[:i]...), n.Kids[i+1:]...)}
		if !tree.Same(c, want) {
			t.Fatalf("candidate %d isn't without item %d", i, i)
		}
	}
	n.Kids = append([]api.Node{{Kind: api.Global, Name: "h", Type: api.Type{Int: api.I32}}}, n.Kids...)
	if e := refused(t, n); e != api.ErrLong {
		t.Errorf("one node more: %d", e)
	}
}

// P27.2: a program of as many nodes as there may be: it loses its global, then 999 statements become 500, 250, 125, 63, 32, 16, 8, 4, 2 and 1, then both numbers 0. With one node more it stays.
func TestGreatProgram(t *testing.T) {
	n := read(t, "i32 x; i32 main() {"+strings.Repeat("print(7i32 + 9i32);", 999)+"}")
	if tree.Size(n) != api.MaxNodes {
		t.Fatalf("%d nodes", tree.Size(n))
	}
	if m, k := reduce.Reduce(n, oracle.Fold, oracle.Fold); k != 13 || text(t, m) != least {
		t.Errorf("%d steps, %s", k, text(t, m))
	}
	n.Kids = append([]api.Node{{Kind: api.Global, Name: "y", Type: api.Type{Int: api.I32}}}, n.Kids...)
	if e := refused(t, n); e != api.ErrLong {
		t.Errorf("one node more: %d", e)
	}
}

// P27.2: a program as deep as there may be: of each If the statements of its Block are left, then both numbers become 0. One deeper it stays.
func TestDeepProgram(t *testing.T) {
	const many = 17 // an If and its Block each, below Prog, Func and Block, and above Print, Binary and Lit
	n := read(t, mainOf(strings.Repeat("if (1u8) {", many)+"print(7i32 + 9i32);"+strings.Repeat("}", many)))
	if tree.Depth(n) != api.MaxDepth {
		t.Fatalf("depth %d", tree.Depth(n))
	}
	if m, k := reduced(t, n, oracle.Fold, oracle.Fold); k != many+2 || text(t, m) != least {
		t.Errorf("%d steps, %s", k, text(t, m))
	}
	var kinds [25]int
	got := candidates(t, n)
	if len(got) != 4*many+8 {
		t.Fatalf("%d candidates", len(got))
	}
	for i, want := range model(t, n, &kinds) {
		if !tree.Same(got[i], want) {
			t.Fatalf("candidate %d is %s", i, text(t, got[i]))
		}
	}
	sum := len(ways(n)) - 3
	n = with(n, ways(n)[sum], []api.Node{{Kind: api.Unary, Op: api.Neg, Kids: []api.Node{at(n, ways(n)[sum])}}})
	if tree.Depth(n) != api.MaxDepth+1 {
		t.Fatalf("depth %d", tree.Depth(n))
	}
	if e := refused(t, n); e != api.ErrLong {
		t.Errorf("one deeper: %d", e)
	}
}

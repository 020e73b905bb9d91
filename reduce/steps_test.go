package reduce_test

import (
	"math/rand"
	"slices"
	"testing"

	"burin/api"
	"burin/oracle"
	"burin/reduce"
	"burin/safe"
	"burin/tree"
)

func wrong(n api.Node, passes, faults byte) bool {
	return oracle.Judge(n, passes, faults).Kind == oracle.Mismatch
}

// byHand is what P27.2 says, step by step: the programs that one comes to, itself first.
func byHand(t *testing.T, n api.Node, passes, faults byte) []api.Node {
	t.Helper()
	list := []api.Node{n}
	if !wrong(n, passes, faults) {
		return list
	}
	for {
		all := candidates(t, n)
		first := slices.IndexFunc(all, func(c api.Node) bool { return wrong(c, passes, faults) })
		if first < 0 {
			return list
		}
		n = all[first]
		list = append(list, n)
	}
}

// reduced asks of Reduce all that P27.2 and P7 promise.
func reduced(t *testing.T, n api.Node, passes, faults byte) (api.Node, int) {
	t.Helper()
	m, steps := reduce.Reduce(n, passes, faults)
	list := byHand(t, n, passes, faults)
	if want := list[len(list)-1]; steps != len(list)-1 || !tree.Same(m, want) {
		t.Fatalf("Reduce(%s, %d, %d): %d steps, %s; want %d, %s", text(t, n), passes, faults, steps, text(t, m), len(list)-1, text(t, want))
	}
	if wrong(m, passes, faults) != wrong(n, passes, faults) || steps > tree.Weight(n)-tree.Weight(m) {
		t.Fatalf("Reduce(%s, %d, %d): %d steps, %s", text(t, n), passes, faults, steps, text(t, m))
	}
	if _, _, e := safe.Check(m); steps > 0 && e != api.OK {
		t.Fatalf("Reduce(%s, %d, %d): %s isn't safe", text(t, n), passes, faults, text(t, m))
	}
	return m, steps
}

// P27.2: the chapter's example, with all programs that it comes to.
func TestExample(t *testing.T) {
	n := read(t, "i32 main() { i32 x = 5i32; print(7i32 + 9i32); return x; }")
	list := byHand(t, n, oracle.Fold, oracle.Fold)
	for i, want := range []string{
		"i32 x = 5i32; print(7i32 + 9i32); return x;",
		"i32 x; print(7i32 + 9i32); return x;",
		"i32 x; print(0i32 + 9i32); return x;",
		"i32 x; print(0i32 + 0i32); return x;",
		"i32 x; print(0i32 + 0i32);",
		"print(0i32 + 0i32);",
	} {
		if i >= len(list) || !tree.Same(list[i], read(t, mainOf(want))) {
			t.Fatalf("step %d isn't %s, of %d", i, want, len(list)-1)
		}
	}
	m, steps := reduced(t, n, oracle.Fold, oracle.Fold)
	if steps != 5 || tree.Weight(m) >= tree.Weight(n) || text(t, m) != "i32 main(){print(0i32+0i32);}" {
		t.Errorf("%d steps, %s", steps, text(t, m))
	}
}

// faulty is a row of the table of layer 26, with what it is made, and in how many steps.
type faulty struct {
	passes, fault byte
	s             string
	steps         int
	want          string
}

func table() []faulty {
	return []faulty{
		{oracle.Fold, oracle.Fold, "i32 main() { print(2i32 + 3i32); return 0i32; }", 3, "i32 main() { print(0i32 + 0i32); }"},
		{oracle.Prop, oracle.Prop, "i32 f(i32 x) { i32 y = x; x = 2i32; print(y); return x; } i32 main() { i32 r; r = f(1i32); return r; }", 3,
			"i32 f(i32 x) { i32 y = x; x = 0i32; print(y); } i32 main() { i32 r; r = f(1i32); }"},
		{oracle.Prop | oracle.Cse, oracle.Cse, "u8 a = 5u8; u8 b = 3u8; i32 main() { u8 x = a; u8 y = b; print(x - y); print(y - x); return 0i32; }", 5,
			"u8 b = 1u8; i32 main() { u8 x; u8 y = b; print(x - y); print(y - x); }"},
		{oracle.Dead, oracle.Dead, "i32 g; i32 main() { g = 1i32; print(g); return 0i32; }", 1, "i32 g; i32 main() { g = 1i32; print(g); }"},
		{oracle.Fold | oracle.Flow, oracle.Flow, "i32 main() { if (1i32) { print(1i32); } else { print(2i32); } return 0i32; }", 4, "i32 main() { if (0i32) { } else { print(0i32); } }"},
		{oracle.Inline, oracle.Inline, "u32 f(u32 x, u32 y) { return x ^ (y << 1u8); } i32 main() { u32 r; r = f(1u32, 2u32); print(r); return 0i32; }", 4,
			"u32 f(u32 x, u32 y) { return x; } i32 main() { u32 r; r = f(0u32, 1u32); print(r); }"},
		{0, oracle.Last, "i32 main() { for i = 0i32 to 3i32 { print(i); } return 0i32; }", 1, "i32 main() { for i = 0i32 to 3i32 { print(i); } }"},
	}
}

// P27.2, P7: each row of the table of layer 26, with its passes and its fault; with bits beside them that mean nothing; without the fault it stays as it is.
func TestTable(t *testing.T) {
	for i, r := range table() {
		n, want := read(t, r.s), read(t, r.want)
		for _, besides := range []byte{0, 128, all &^ r.passes} {
			if m, steps := reduced(t, n, r.passes, r.fault|besides); steps != r.steps || !tree.Same(m, want) {
				t.Errorf("row %d, faults %d: %d steps, %s", i, r.fault|besides, steps, text(t, m))
			}
			if m, steps := reduced(t, want, r.passes, r.fault|besides); steps != 0 || !tree.Same(m, want) {
				t.Errorf("row %d, faults %d: of what was made %d steps, %s", i, r.fault|besides, steps, text(t, m))
			}
			if m, steps := reduced(t, n, r.passes, besides); steps != 0 || !tree.Same(m, n) {
				t.Errorf("row %d, faults %d: %d steps, %s", i, besides, steps, text(t, m))
			}
		}
		if m, steps := reduced(t, n, r.passes|64|128, r.fault); steps != r.steps || !tree.Same(m, want) {
			t.Errorf("row %d, with passes that there are not: %d steps, %s", i, steps, text(t, m))
		}
		for passes := range all + 1 {
			reduced(t, n, passes, r.fault)
			reduced(t, n, passes, 255)
			if m, steps := reduced(t, n, passes, 0); steps != 0 || !tree.Same(m, n) {
				t.Errorf("row %d, passes %d without faults: %d steps, %s", i, passes, steps, text(t, m))
			}
		}
	}
}

// renamed: a program with names that no program from draws has.
func renamed(n api.Node) api.Node {
	if n.Name != "" && n.Name != "main" {
		n.Name = "zz" + n.Name
	}
	n.Kids = slices.Clone(n.Kids)
	for i, kid := range n.Kids {
		n.Kids[i] = renamed(kid)
	}
	return n
}

// planted: a program from draws, somewhere in whose main a row's statements stand.
func planted(t *testing.T, r *rand.Rand, s string, size int) api.Node {
	t.Helper()
	n, row := drawn(t, r, size), renamed(read(t, s))
	last, rowLast := len(n.Kids)-1, len(row.Kids)-1
	own := row.Kids[rowLast].Kids[0].Kids
	own = own[:len(own)-1] // but its Ret
	block := &n.Kids[last].Kids[0]
	block.Kids = slices.Insert(block.Kids, r.Intn(len(block.Kids)), own...)
	n.Kids = slices.Insert(n.Kids, r.Intn(last+1), row.Kids[:rowLast]...)
	return n
}

// P27.2, P7: programs from draws, alone and with a row of the table among their statements, and such as come of them: with one fault, with several, with all passes and with some.
func TestSteps(t *testing.T) {
	r := rand.New(rand.NewSource(28))
	var found [7]int
	kept, steps, most := 0, 0, 0
	for n := range 700 {
		row := table()[n%7]
		p, passes, faults := drawn(t, r, 120), byte(r.Intn(256)), byte(1)<<r.Intn(7)
		if n%3 > 0 {
			p, passes, faults = planted(t, r, row.s, 60), row.passes, row.fault
		}
		switch r.Intn(4) {
		case 0:
			passes |= byte(r.Intn(256))
		case 1:
			passes, faults = passes|byte(r.Intn(256)), faults|byte(r.Intn(256))
		}
		m, k := reduced(t, p, passes, faults)
		if !wrong(m, passes, faults) {
			kept++
			if k != 0 || !tree.Same(m, p) {
				t.Fatalf("%s, passes %d, faults %d: %d steps, %s", text(t, p), passes, faults, k, text(t, m))
			}
			continue
		}
		for i := range found {
			if faults == 1<<i {
				found[i]++
			}
		}
		steps, most = steps+k, max(most, k)
	}
	t.Logf("by the faults %d mismatches, %d others, %d steps, at most %d of one", found, kept, steps, most)
	if slices.Min(found[:]) < 10 || kept < 50 || steps < 2000 || most < 30 {
		t.Errorf("by the faults %d mismatches, %d others, %d steps, at most %d of one", found, kept, steps, most)
	}
}

// P27.2, P7: programs in which much stands close together, and such as come of them, with each fault.
func TestStepsOfDensePrograms(t *testing.T) {
	r := rand.New(rand.NewSource(29))
	lighter, stayed := 0, 0
	for _, s := range dense {
		p := read(t, s)
		if _, _, e := safe.Check(p); e != api.OK {
			t.Fatalf("%s: %d", s, e)
		}
		for i := range 8 {
			faults := byte(1) << i // the last of them is no fault, in its place stand all
			if i == 7 {
				faults = 255
			}
			for _, n := range append(changed(r, p, 12), p) {
				if _, k := reduced(t, n, all, faults); k > 0 {
					lighter++
				} else {
					stayed++
				}
			}
		}
	}
	t.Logf("%d were made lighter, %d stayed", lighter, stayed)
	if lighter < 30 || stayed < 30 {
		t.Errorf("%d were made lighter, %d stayed", lighter, stayed)
	}
}

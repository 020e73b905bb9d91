package oracle_test

import (
	"math/rand"
	"reflect"
	"slices"
	"testing"

	"burin/api"
	"burin/eval"
	"burin/oracle"
	"burin/run"
	"burin/safe"
	"burin/tree"
	"burin/types"
	"burin/vm"
)

// P26.2: of the bounds that programs have, of those about the one from which it is MaxFuel on, and of such as no program has a fuel that the machine takes.
func TestFuel(t *testing.T) {
	for _, r := range []struct{ bound, want int }{
		{0, 1000}, {1, 1300}, {2, 1600}, {6, 2800}, {api.MaxSteps - 1, 6000700}, {api.MaxSteps, 6001000}, {api.MaxSteps + 1, 6001300},
		{27957, 8388100}, {27958, 8388400}, {27959, api.MaxFuel}, {27960, api.MaxFuel}, {27962, api.MaxFuel}, {27963, api.MaxFuel},
		{api.MaxFuel, api.MaxFuel}, {1 << 32, api.MaxFuel}, {1<<63 - 1, api.MaxFuel}, {(1<<63 - 1) / 300, api.MaxFuel},
	} {
		if got := oracle.Fuel(r.bound); got != r.want {
			t.Errorf("Fuel(%d) = %d; want %d", r.bound, got, r.want)
		}
	}
	for bound := range api.MaxSteps + 1 {
		if got := oracle.Fuel(bound); got != 300*bound+1000 {
			t.Fatalf("Fuel(%d) = %d", bound, got)
		}
	}
	for _, bound := range []int{-1, -3, -4, -1 << 40, -1 << 63} {
		if got := oracle.Fuel(bound); got < 0 || got > api.MaxFuel {
			t.Errorf("Fuel(%d) = %d", bound, got)
		}
	}
}

// verdictByHand is what P26.3 says, word by word.
func verdictByHand(t *testing.T, n api.Node, passes, faults byte) oracle.Verdict {
	t.Helper()
	bound, at, e := safe.Check(n)
	if e != api.OK {
		return oracle.Verdict{At: at, E: e}
	}
	image, at, e := oracle.Compile(n, passes, faults)
	if e != api.OK {
		return oracle.Verdict{At: at, E: e}
	}
	v := oracle.Verdict{Kind: oracle.Mismatch, Bound: bound}
	v.Want, at, e = eval.Run(n, bound)
	if at != 0 || e != api.OK || !v.Want.Halted {
		t.Fatalf("eval.Run(%+v, %d): %+v, %d at %d", n, bound, v.Want, e, at)
	}
	if v.Got, e = vm.Run(image, 300*bound+1000); e != api.OK {
		t.Fatalf("vm.Run of Compile(%+v, %d, %d): %d", n, passes, faults, e)
	}
	if sameEnd(v.Want, v.Got) {
		v.Kind = oracle.Agree
	}
	return v
}

func judged(t *testing.T, n api.Node, passes, faults byte) oracle.Verdict {
	t.Helper()
	got, want := oracle.Judge(n, passes, faults), verdictByHand(t, n, passes, faults)
	if !reflect.DeepEqual(got, want) {
		t.Fatalf("Judge(%+v, %d, %d) = %+v; want %+v", n, passes, faults, got, want)
	}
	if got.Kind == oracle.Mismatch && faults == 0 {
		t.Fatalf("Judge(%+v, %d, 0) = %+v", n, passes, got)
	}
	return got
}

// P26.3 and the chapter's examples, field by field: each kind of verdict. A run of the machine that was led astray may trap, or halt with another number, or behind another trace.
func TestVerdicts(t *testing.T) {
	halts := func(exit int64, steps int, trace ...int64) api.Outcome {
		return api.Outcome{Halted: true, Exit: exit, Steps: steps, Trace: trace}
	}
	const six = "i32 main() { print(2i32 + 3i32); return 0i32; }"
	const ends = "i32 main() { i32 x = 2i32 + 3i32; return x; }"
	const traps = "u8 a[3i32]; i32 main() { for i = 0i32 to 3i32 { a[i] = 7u8; } return 0i32; }"
	for _, r := range []struct {
		s              string
		passes, faults byte
		want           oracle.Verdict // Got's Steps aren't told: which image it is, is free
	}{
		{"i32 main() { print(1i32 / 0i32); }", 0, 0, oracle.Verdict{At: 4, E: api.ErrUnsafe}},
		{"i32 main() { print(1i32 / 0i32); }", 63, 127, oracle.Verdict{At: 4, E: api.ErrUnsafe}},
		{"i32 main() { main(); }", 63, 0, oracle.Verdict{At: 3, E: api.ErrCall}},
		{"i32 main() { print(x); }", 2, 2, oracle.Verdict{At: 4, E: api.ErrName}},
		{"i32 main() { print(1u8 + 1i8); }", 0, 64, oracle.Verdict{At: 6, E: api.ErrType}},
		{"u8 x; u8 x; i32 main() { }", 0, 0, oracle.Verdict{At: 2, E: api.ErrTwice}},
		{"i32 main() { for i = 0i32 to 16i32 { for j = 0i32 to 16i32 { for k = 0i32 to 16i32 { print(1u8); print(2u8); } } } }", 0, 0, oracle.Verdict{At: 3, E: api.ErrLimit}},
		{six, 0, 0, oracle.Verdict{Kind: oracle.Agree, Bound: 6, Want: halts(0, 6, 5), Got: halts(0, 0, 5)}},
		{six, oracle.Fold, 0, oracle.Verdict{Kind: oracle.Agree, Bound: 6, Want: halts(0, 6, 5), Got: halts(0, 0, 5)}},
		{six, oracle.Fold, oracle.Fold, oracle.Verdict{Kind: oracle.Mismatch, Bound: 6, Want: halts(0, 6, 5), Got: halts(0, 0, 6)}},
		{ends, oracle.Fold, oracle.Fold, oracle.Verdict{Kind: oracle.Mismatch, Bound: 6, Want: halts(5, 6), Got: halts(6, 0)}},
		{"i32 main() { }", 255, 255, oracle.Verdict{Kind: oracle.Agree, Want: halts(0, 0), Got: halts(0, 0)}},
		{"u8 g; i32 main() { if (g) { print(1u8); print(2u8); } else { print(3u8); } return 7i32; }", 63, 0, oracle.Verdict{Kind: oracle.Agree, Bound: 8, Want: halts(7, 6, 3), Got: halts(7, 0, 3)}},
		{traps, 0, 0, oracle.Verdict{Kind: oracle.Agree, Bound: 18, Want: halts(0, 18), Got: halts(0, 0)}},
		{traps, 0, oracle.Last, oracle.Verdict{Kind: oracle.Mismatch, Bound: 18, Want: halts(0, 18), Got: api.Outcome{Trap: api.TrapIndex}}},
	} {
		got := judged(t, read(t, r.s), r.passes, r.faults)
		got.Got.Steps = 0
		if len(got.Want.Trace) == 0 {
			got.Want.Trace = nil
		}
		if len(got.Got.Trace) == 0 {
			got.Got.Trace = nil
		}
		if !reflect.DeepEqual(got, r.want) {
			t.Errorf("Judge(%q, %d, %d) = %+v; want %+v", r.s, r.passes, r.faults, got, r.want)
		}
	}
}

// mutant: the same tree with something else in a place or two, mostly a program still.
func mutant(r *rand.Rand, n api.Node) api.Node {
	n = tree.Copy(n)
	for range 1 + r.Intn(3) {
		var list []*api.Node
		var gather func(n *api.Node)
		gather = func(n *api.Node) {
			list = append(list, n)
			for i := range n.Kids {
				gather(&n.Kids[i])
			}
		}
		gather(&n)
		to, from := list[r.Intn(len(list))], list[r.Intn(len(list))]
		switch r.Intn(12) {
		case 0, 1, 2:
			to.N = int64(r.Intn(9)) - 2
		case 3:
			to.M = int64(r.Intn(20))
		case 4:
			to.Op = byte(r.Intn(20))
		case 5:
			if k := len(to.Kids); k > 0 {
				at := r.Intn(k)
				to.Kids = slices.Delete(to.Kids, at, at+1)
			}
		case 6:
			if to.Kind == from.Kind {
				*to = tree.Copy(*from)
			}
		case 7:
			to.Name, to.Type = from.Name, from.Type
		default: // what made an operation safe may be gone, or one be there that may trap
			list = slices.DeleteFunc(list, func(n *api.Node) bool { return n.Kind != api.Binary || len(n.Kids) != 2 })
			if len(list) == 0 {
				continue
			}
			if to = list[r.Intn(len(list))]; r.Intn(2) == 0 {
				*to = to.Kids[r.Intn(2)]
			} else {
				to.Op = byte(1 + r.Intn(10))
			}
		}
	}
	return n
}

// P26.3, P26.4, P6: programs from draws, and such with something else in them, which may be none, or unsafe; with faults and without, each field of the verdict.
func TestJudge(t *testing.T) {
	r := rand.New(rand.NewSource(31))
	kinds, errors, ends := [3]int{}, map[api.Errno]int{}, map[string]int{}
	wrong := [7]int{}
	for n := range 6000 {
		p := drawn(t, r, 300)
		if n%3 > 0 {
			p = mutant(r, p)
		}
		passes, faults := byte(r.Intn(256)), byte(0)
		switch r.Intn(4) {
		case 0:
			faults = byte(r.Intn(256))
		case 1, 2:
			faults = 1 << r.Intn(7)
			passes |= faults | byte(r.Intn(2))*63
		}
		v := judged(t, p, passes, faults)
		kinds[v.Kind]++
		errors[v.E]++
		if v.Kind != oracle.Mismatch {
			continue
		}
		for i := range wrong {
			if faults == 1<<i {
				wrong[i]++
			}
		}
		switch o := v.Got; {
		case o.Fuel:
			ends["spent"]++
		case o.Trap != api.NoTrap:
			ends["trap"]++
		case o.Exit != v.Want.Exit:
			ends["exit"]++
		default:
			ends["trace"]++
		}
	}
	t.Logf("invalid, agree, mismatch: %d; errors %v; wrong by each fault alone: %d; how: %v", kinds, errors, wrong, ends)
	if slices.Min(kinds[:]) < 100 || len(errors) < 6 || errors[api.ErrUnsafe] < 100 || ends["trace"] < 20 {
		t.Errorf("invalid, agree, mismatch: %d; errors %v; how: %v", kinds, errors, ends)
	}
}

// changed: programs that come of one by changing it step by step, so long as they are right.
func changed(r *rand.Rand, n api.Node, steps int) []api.Node {
	var list []api.Node
	for range steps {
		m := mutant(r, n)
		if _, e := types.Check(m); e == api.OK {
			n = m
			list = append(list, n)
		}
	}
	return list
}

// onMachine: does the machine do what a program does, which halts behind so many steps? P15.2, P26.1 and P24.2 tell within how many.
func onMachine(t *testing.T, n api.Node, passes byte, want api.Outcome) bool {
	t.Helper()
	between := 200*(100*want.Steps+100) + 200
	got, e := vm.Run(compiled(t, n, passes, 0), min(40*between+20000, api.MaxFuel))
	return e == api.OK && sameEnd(want, got)
}

// P26.1, P26.4, P5: programs that do, close together, what those of draws seldom do, and such as come of them, which may be unsafe: if they halt, so does their code behind the passes, and so does the machine; if they are safe, they agree.
func TestChangedProgramsRun(t *testing.T) {
	r := rand.New(rand.NewSource(32))
	halted, unsafe := 0, 0
	for n := range 260 {
		p := drawn(t, r, 200)
		if n%2 == 0 {
			p = read(t, dense[n/2%len(dense)])
		}
		for _, p := range changed(r, p, 40) {
			want, _, e := eval.Run(p, 2000)
			if e != api.OK || !want.Halted {
				continue
			}
			halted++
			passes := byte(r.Intn(64))
			c := lowered(t, p)
			first, _ := run.Run(c, api.MaxFuel)
			second, _ := run.Run(optimized(t, c, passes, 0), min(200*first.Steps+200, api.MaxFuel))
			if !sameEnd(want, first) || !sameEnd(want, second) || !onMachine(t, p, passes, want) {
				t.Fatalf("%+v, passes %d: %+v, behind them %+v; want %+v", p, passes, first, second, want)
			}
			if judged(t, p, passes, 0).Kind != oracle.Agree {
				unsafe++
			}
		}
	}
	t.Logf("%d halted, %d of them unsafe", halted, unsafe)
	if halted < 3000 || unsafe < 500 || halted-unsafe < 500 {
		t.Errorf("%d halted, %d of them unsafe", halted, unsafe)
	}
}

// dense: programs in which much stands close together.
var dense = []string{
	"struct s { i8 x; u8 y; } u8 g = 3u8; i8 a[3i32]; struct s v; " +
		"i8 f(i8 p, u8 *q) { *q = *q + g; if (p > 1i8) { print(*q); return p; } else { print(p); } } " +
		"i32 main() { i8 x = -1i8; u8 y[2i32]; for i = 0i32 to 3i32 { a[i] = f(x, &y[1i32]); x = x + (i8)i + 1i8; print(x ? a[i] : v.x); } " +
		"v.y = g; f(~x, &v.y); print(!x || v.y && 1u8 << 3i8 == 8u8); print(a[(u8)0i32] * a[2i32]); return (i32)x; }",
	"u8 f(u8 *p) { *p = *p + 1u8; return *p; } u8 g(u8 a, u8 b, u8 *c, u8 d) { b = f(&b); f(&*c); d = f(&a); print(a); print(b); print(*c); print(d); b = b * 2u8; f(&b); return b; } " +
		"i32 main() { u8 x = 30u8; u8 z = 1u8; x = g(10u8, x, &x, x); for i = 0i32 to 2i32 { u8 y; u8 x = x; y = g(y, z, &y, x); z = g(x, y, &z, z); u8 b[4i32]; b[i] = f(&b[3i32]); print(b[3i32]); } print(x); print(z); }",
	"i32 f(i32 n) { i32 s; for i = 0i32 to 4i32 { for j = 3i32 to 3i32 { print(j); } s = s + n; if (i == n) { return s; } else { s = s * 2i32 - i; } } return 100i32; } " +
		"i32 main() { i32 x; for n = 0i32 to 5i32 { x = f(n); print(x); x = x && (n || x) ? x : n; if (x) { i32 x = x + n; print(x); } } return x; }",
	"u8 m[16i32]; u16 h; i32 main() { for i = 0i32 to 16i32 { m[i] = (u8)(i * i); } for i = 1i32 to 15i32 { h = h * 31u16 + (u16)m[m[i] % 16u8]; u16 k[3i32]; k[h % 3u16] = h; print(k[0i32] + k[1i32] * 2u16 + k[2i32] * 3u16); } return (i32)h % 7i32; }",
	"u32 k = 9u32; u32 f(u32 x, u32 y, u32 z) { return x - y * z; } u32 g(u32 x, u32 *y) { *y = x ^ *y; if (x & 1u32) { return *y; } return x; } " +
		"i32 main() { u32 a = 1u32; u32 b = k; u32 c = b; for i = 0i32 to 6i32 { u32 d = a; a = b; b = f(c, d, a); c = f(c, a, d); d = f(b, c, a); print(a - b); print(b - a); print(d); a = g(d, &k); b = g(c, &k); print(k); if (2u8 < 3u8) { c = c + d; } else { c = a; } } print(a ^ b ^ c); return (i32)(k % 100u32); }",
}

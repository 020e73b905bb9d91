package farm_test

import (
	"math/rand"
	"reflect"
	"testing"

	"burin/api"
	"burin/farm"
	"burin/gen"
	"burin/oracle"
	"burin/reduce"
	"burin/tree"
)

// again plays a Run's Text (P8, P28.4): the verdicts are those of Run, and of Reduced; and so they are where W is another word: ErrForm.
func again(t *testing.T, s farm.Script) farm.Report {
	t.Helper()
	r, e := farm.Run(s)
	if e != api.OK {
		t.Fatalf("Run(%+v): %d", s, e)
	}
	first, second, e := replayed(t, r.Text)
	if e != api.OK || !reflect.DeepEqual(first, r.Verdict) || !reflect.DeepEqual(second, oracle.Judge(r.Reduced, s.Passes, s.Faults)) {
		t.Fatalf("Replay(%q): %+v, %+v, %d; Run's was %+v", r.Text, first, second, e, r.Verdict)
	}
	if second.Kind != r.Verdict.Kind {
		t.Fatalf("%q: the verdicts' kinds are %d and %d", r.Text, r.Verdict.Kind, second.Kind)
	}
	for kind := range byte(3) {
		if kind != r.Verdict.Kind {
			expect(t, farm.Text(s.Passes, s.Faults, kind, text(t, r.Program), text(t, r.Reduced)), api.ErrForm)
		}
	}
	return r
}

// P8, P28.4: many scripts, with many sets of passes and of faults.
func TestAgain(t *testing.T) {
	r := rand.New(rand.NewSource(35))
	var kinds [3]int
	var faults [8]int
	for range 1500 {
		s := anyScript(r)
		got := again(t, s)
		kinds[got.Verdict.Kind]++
		for i := range faults {
			if s.Faults == 1<<i && got.Verdict.Kind == oracle.Mismatch {
				faults[i]++
			}
		}
	}
	t.Logf("verdicts %d, mismatches by the faults %d", kinds, faults)
	if kinds[oracle.Agree] < 300 || kinds[oracle.Mismatch] < 150 || min(faults[1], faults[4], faults[5], faults[6]) < 5 || faults[7] > 0 {
		t.Errorf("verdicts %d, mismatches by the faults %d", kinds, faults)
	}
}

// P8, P28.4: the edges: no draws, as many as there may be, configurations with each bound.
func TestAgainOfEdges(t *testing.T) {
	r := rand.New(rand.NewSource(36))
	mismatches := 0
	for _, c := range edges() {
		for _, many := range []int{0, 1, 300, api.MaxTape} {
			for _, faults := range []byte{0, 1 << r.Intn(7), 255} {
				if again(t, farm.Script{Config: c, Draws: draws(r, many), Passes: all, Faults: faults}).Verdict.Kind == oracle.Mismatch {
					mismatches++
				}
			}
		}
	}
	if t.Logf("%d mismatches", mismatches); mismatches < 8 {
		t.Errorf("%d mismatches", mismatches)
	}
}

// P5, P8: without faults each report tells of agreement, and of a program that stayed as it is.
func TestNoFaults(t *testing.T) {
	r := rand.New(rand.NewSource(37))
	for passes := range 256 {
		got := again(t, farm.Script{Config: gen.Config{Funcs: r.Intn(5), Stats: 1 + r.Intn(8), Depth: 1 + r.Intn(4), Size: 20 + r.Intn(380)}, Draws: draws(r, 600), Passes: byte(passes)})
		if got.Verdict.Kind != oracle.Agree || got.Steps != 0 || !tree.Same(got.Program, got.Reduced) {
			t.Errorf("passes %d: %+v", passes, got)
		}
	}
}

// P6, P7, P8: the programs of the table of layer 26, told with what reduce makes of them.
func TestTable(t *testing.T) {
	for _, r := range []struct {
		passes, fault byte
		s             string
	}{
		{oracle.Fold, oracle.Fold, sum},
		{oracle.Prop, oracle.Prop, "i32 f(i32 x) { i32 y = x; x = 2i32; print(y); return x; } i32 main() { i32 r; r = f(1i32); return r; }"},
		{oracle.Prop | oracle.Cse, oracle.Cse, "u8 a = 5u8; u8 b = 3u8; i32 main() { u8 x = a; u8 y = b; print(x - y); print(y - x); return 0i32; }"},
		{oracle.Dead, oracle.Dead, "i32 g; i32 main() { g = 1i32; print(g); return 0i32; }"},
		{oracle.Fold | oracle.Flow, oracle.Flow, "i32 main() { if (1i32) { print(1i32); } else { print(2i32); } return 0i32; }"},
		{oracle.Inline, oracle.Inline, "u32 f(u32 x, u32 y) { return x ^ (y << 1u8); } i32 main() { u32 r; r = f(1u32, 2u32); print(r); return 0i32; }"},
		{0, oracle.Last, "i32 main() { for i = 0i32 to 3i32 { print(i); } return 0i32; }"},
	} {
		n := parsed(t, r.s)
		lighter, _ := reduce.Reduce(n, r.passes, r.fault)
		for _, besides := range []byte{0, 128} {
			s := farm.Text(r.passes|besides, r.fault|besides, oracle.Mismatch, r.s, text(t, lighter))
			first, second, e := replayed(t, s)
			if e != api.OK || first.Kind != oracle.Mismatch || second.Kind != oracle.Mismatch {
				t.Errorf("Replay(%q): %+v, %+v, %d", s, first, second, e)
			}
			s = farm.Text(r.passes|besides, besides, oracle.Agree, r.s, text(t, lighter))
			first, second, e = replayed(t, s)
			if e != api.OK || first.Kind != oracle.Agree || second.Kind != oracle.Agree {
				t.Errorf("Replay(%q): %+v, %+v, %d", s, first, second, e)
			}
			expect(t, farm.Text(r.passes|besides, besides, oracle.Mismatch, r.s, text(t, lighter)), api.ErrForm)
		}
	}
}

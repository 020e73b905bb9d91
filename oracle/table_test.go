package oracle_test

import (
	"slices"
	"testing"

	"burin/api"
	"burin/oracle"
)

// faulty is a row of the table of P26.5, with what the program prints and answers, and what it does behind the fault.
type faulty struct {
	passes, fault byte
	s             string
	exit          int64
	want, got     []int64
}

func table() []faulty {
	return []faulty{
		{oracle.Fold, oracle.Fold, "i32 main() { print(2i32 + 3i32); return 0i32; }", 0, []int64{5}, []int64{6}},
		{oracle.Prop, oracle.Prop, "i32 f(i32 x) { i32 y = x; x = 2i32; print(y); return x; } i32 main() { i32 r; r = f(1i32); return r; }", 2, []int64{1}, []int64{2}},
		{oracle.Prop | oracle.Cse, oracle.Cse, "u8 a = 5u8; u8 b = 3u8; i32 main() { u8 x = a; u8 y = b; print(x - y); print(y - x); return 0i32; }", 0, []int64{2, 254}, []int64{2, 2}},
		{oracle.Dead, oracle.Dead, "i32 g; i32 main() { g = 1i32; print(g); return 0i32; }", 0, []int64{1}, []int64{0}},
		{oracle.Fold | oracle.Flow, oracle.Flow, "i32 main() { if (1i32) { print(1i32); } else { print(2i32); } return 0i32; }", 0, []int64{1}, []int64{2}},
		{oracle.Inline, oracle.Inline, "u32 f(u32 x, u32 y) { return x ^ (y << 1u8); } i32 main() { u32 r; r = f(1u32, 2u32); print(r); return 0i32; }", 0, []int64{5}, []int64{0}},
		{0, oracle.Last, "i32 main() { for i = 0i32 to 3i32 { print(i); } return 0i32; }", 0, []int64{0, 1, 2}, []int64{0, 1, 2, 3}},
	}
}

// P26.5, P6: each row with its fault is a Mismatch, and so it is with faults beside it that mean nothing there; P26.4: without, with every other fault of a pass that isn't done, it is Agree.
func TestTable(t *testing.T) {
	for n, r := range table() {
		p := read(t, r.s)
		for _, besides := range []byte{0, 128, all &^ r.passes} {
			v := judged(t, p, r.passes, r.fault|besides)
			if v.Kind != oracle.Mismatch || !slices.Equal(v.Want.Trace, r.want) || !slices.Equal(v.Got.Trace, r.got) || v.Want.Exit != r.exit || v.Got.Exit != r.exit {
				t.Errorf("row %d, faults %d: %+v", n, r.fault|besides, v)
			}
			v = judged(t, p, r.passes, besides)
			if v.Kind != oracle.Agree || !slices.Equal(v.Want.Trace, r.want) || !slices.Equal(v.Got.Trace, r.want) || v.Want.Exit != r.exit || v.Got.Exit != r.exit {
				t.Errorf("row %d, faults %d: %+v", n, besides, v)
			}
		}
		if v := judged(t, p, r.passes|64|128, r.fault); v.Kind != oracle.Mismatch {
			t.Errorf("row %d, with passes that there are not: %+v", n, v)
		}
		for passes := range all + 1 {
			if v := judged(t, p, passes, 0); v.Kind != oracle.Agree {
				t.Errorf("row %d, passes %d: %+v", n, passes, v)
			}
			if r.fault != oracle.Last && passes&r.fault == 0 {
				if v := judged(t, p, passes, r.fault); v.Kind != oracle.Agree {
					t.Errorf("row %d, passes %d, the fault of one that isn't done: %+v", n, passes, v)
				}
			}
		}
	}
}

// P6: several faults at once: each of them does what it does alone, where no pass is in another one's way.
func TestSeveralFaults(t *testing.T) {
	const apart = oracle.Fold | oracle.Dead | oracle.Flow
	p := read(t, "i32 g; i32 main() { print(2i32 + 3i32); g = 1i32; print(g); if (1i32) { print(1i32); } else { print(2i32); } for i = 0i32 to 2i32 { print(i); } return 0i32; }")
	for _, r := range []struct {
		passes, faults byte
		want           []int64
	}{
		{all, 0, []int64{5, 1, 1, 0, 1}},
		{apart, 0, []int64{5, 1, 1, 0, 1}},
		{apart, oracle.Fold | oracle.Dead, []int64{6, 0, 1, 0, 1}},
		{apart, oracle.Fold | oracle.Flow, []int64{6, 1, 2, 0, 1}},
		{apart, oracle.Dead | oracle.Last, []int64{5, 0, 1, 0, 1, 2}},
		{apart, oracle.Fold | oracle.Dead | oracle.Flow | oracle.Last, []int64{6, 0, 2, 0, 1, 2}},
		{oracle.Fold | oracle.Flow, 255, []int64{6, 1, 2, 0, 1, 2}},
		{oracle.Dead, 255, []int64{5, 0, 1, 0, 1, 2}},
		{0, 255, []int64{5, 1, 1, 0, 1, 2}},
		{64, 63, []int64{5, 1, 1, 0, 1}},
	} {
		v := judged(t, p, r.passes, r.faults)
		if !slices.Equal(v.Want.Trace, []int64{5, 1, 1, 0, 1}) || !slices.Equal(v.Got.Trace, r.want) || (v.Kind == oracle.Agree) != slices.Equal(v.Got.Trace, v.Want.Trace) {
			t.Errorf("passes %d, faults %d: %+v; want %d", r.passes, r.faults, v, r.want)
		}
	}
}

// P26.5: the first row with any two numbers of 0 to 255, of i32 and of each type that the chapter names.
func TestSums(t *testing.T) {
	p := read(t, table()[0].s)
	sum := &p.Kids[0].Kids[0].Kids[0].Kids[0] // Prog, main, its Block, the Print
	if sum.Kind != api.Binary {
		t.Fatalf("no sum: %+v", sum)
	}
	for _, typ := range []byte{api.U8, api.U16, api.U32, api.I32} {
		sum.Kids[0].Type.Int, sum.Kids[1].Type.Int = typ, typ
		for a := range int64(256) {
			for b := range int64(256) {
				if typ != api.U8 && (a+b)%5 > 0 && a < 250 {
					continue // all of them of one type are enough
				}
				sum.Kids[0].N, sum.Kids[1].N = a, b
				if v := oracle.Judge(p, oracle.Fold, oracle.Fold); v.Kind != oracle.Mismatch || v.Bound != 6 {
					t.Fatalf("%d + %d of %d: %+v", a, b, typ, v)
				}
				if v := oracle.Judge(p, oracle.Fold, 0); v.Kind != oracle.Agree {
					t.Fatalf("%d + %d of %d without the fault: %+v", a, b, typ, v)
				}
			}
		}
	}
}

package ints

import (
	"math"
	"math/big"
	"testing"

	"burin/api"
)

// The signatures that the chapter lists.
var (
	_ func(byte) bool                                  = Form
	_ func(byte) int                                   = Width
	_ func(byte) bool                                  = Signed
	_ func(byte) api.Span                              = Span
	_ func(byte, int64) bool                           = Fits
	_ func(byte, int64) int64                          = Wrap
	_ func(byte, byte, int64, int64) (int64, api.Trap) = Do
	_ func(byte, byte, int64) (int64, api.Trap)        = Un
)

// kinds writes out what the chapter says of each type, so that the tests reckon none of it as the package does.
var kinds = []struct {
	t         byte
	width     int
	signed    bool
	low, high int64
}{
	{api.I8, 8, true, -128, 127},
	{api.U8, 8, false, 0, 255},
	{api.I16, 16, true, -32768, 32767},
	{api.U16, 16, false, 0, 65535},
	{api.I32, 32, true, -2147483648, 2147483647},
	{api.U32, 32, false, 0, 4294967295},
}

// far are numbers that are none of any type, and those about the ends of all types.
func far() []int64 {
	list := []int64{math.MinInt64, math.MinInt64 + 1, math.MaxInt64 - 1, math.MaxInt64, 1 << 62, -1 << 62}
	for _, w := range []int{0, 1, 7, 8, 15, 16, 31, 32, 33, 62} {
		for d := int64(-2); d <= 2; d++ {
			list = append(list, int64(1)<<w+d, -(int64(1)<<w)+d)
		}
	}
	return list
}

// trueWrap goes by division, not by conversion.
func trueWrap(t byte, v *big.Int) int64 {
	m := new(big.Int).Lsh(big.NewInt(1), uint(kinds[t].width))
	r := new(big.Int).Mod(v, m)
	if r.Cmp(big.NewInt(kinds[t].high)) > 0 {
		r.Sub(r, m)
	}
	return r.Int64()
}

func inSpan(t byte, v *big.Int) bool {
	return v.Cmp(big.NewInt(kinds[t].low)) >= 0 && v.Cmp(big.NewInt(kinds[t].high)) <= 0
}

func settled(t byte, v *big.Int) (int64, api.Trap) {
	if kinds[t].signed && !inSpan(t, v) {
		return 0, api.TrapOver
	}
	return trueWrap(t, v), api.NoTrap
}

func sign(is bool) (int64, api.Trap) {
	if is {
		return 1, api.NoTrap
	}
	return 0, api.NoTrap
}

// trueShift takes the count as it is.
func trueShift(op, t byte, a *big.Int, count int64) (int64, api.Trap) {
	if count < 0 || count > int64(kinds[t].width)-1 {
		return 0, api.TrapShift
	}
	power := new(big.Int).Exp(big.NewInt(2), big.NewInt(count), nil)
	if op == api.Shl {
		return settled(t, power.Mul(a, power))
	}
	// Div of big rounds down, as the power is above 0.
	return new(big.Int).Div(a, power).Int64(), api.NoTrap
}

func trueDivide(op, t byte, a, b *big.Int) (int64, api.Trap) {
	if b.Sign() == 0 {
		return 0, api.TrapZero
	}
	q, r := new(big.Int).QuoRem(a, b, new(big.Int))
	if !inSpan(t, q) {
		return 0, api.TrapOver
	}
	if op == api.Div {
		return q.Int64(), api.NoTrap
	}
	return r.Int64(), api.NoTrap
}

// trueDo is the table of P1.2, in numbers of any size.
func trueDo(op, t byte, x, y int64) (int64, api.Trap) {
	a := big.NewInt(trueWrap(t, big.NewInt(x)))
	if op == api.Shl || op == api.Shr {
		return trueShift(op, t, a, y)
	}
	b := big.NewInt(trueWrap(t, big.NewInt(y)))
	r := new(big.Int)
	switch op {
	case api.Add:
		return settled(t, r.Add(a, b))
	case api.Sub:
		return settled(t, r.Sub(a, b))
	case api.Mul:
		return settled(t, r.Mul(a, b))
	case api.Div, api.Rem:
		return trueDivide(op, t, a, b)
	case api.And:
		return r.And(a, b).Int64(), api.NoTrap
	case api.Or:
		return r.Or(a, b).Int64(), api.NoTrap
	case api.Xor:
		return r.Xor(a, b).Int64(), api.NoTrap
	case api.Lt:
		return sign(a.Cmp(b) < 0)
	case api.Le:
		return sign(a.Cmp(b) <= 0)
	case api.Gt:
		return sign(a.Cmp(b) > 0)
	case api.Ge:
		return sign(a.Cmp(b) >= 0)
	case api.Eq:
		return sign(a.Cmp(b) == 0)
	case api.Ne:
		return sign(a.Cmp(b) != 0)
	}
	return 0, api.TrapForm
}

func checkDo(t *testing.T, op, ty byte, a, b int64) {
	t.Helper()
	want, trap := trueDo(op, ty, a, b)
	if v, e := Do(op, ty, a, b); v != want || e != trap {
		t.Fatalf("Do(%d, %d, %d, %d) = %d, %d; want %d, %d", op, ty, a, b, v, e, want, trap)
	}
}

// P1.1
func TestTypes(t *testing.T) {
	for _, k := range kinds {
		if !Form(k.t) || Width(k.t) != k.width || Signed(k.t) != k.signed {
			t.Errorf("type %d: %v, %d, %v", k.t, Form(k.t), Width(k.t), Signed(k.t))
		}
		if s := Span(k.t); s != (api.Span{Low: k.low, High: k.high}) {
			t.Errorf("Span(%d) = %v", k.t, s)
		}
	}
}

// P1.1
func TestFits(t *testing.T) {
	for _, k := range kinds {
		for v, want := range map[int64]bool{k.low - 1: false, k.low: true, 0: true, 1: true, k.high: true, k.high + 1: false,
			math.MinInt64: false, math.MaxInt64: false} {
			if Fits(k.t, v) != want {
				t.Errorf("Fits(%d, %d) = %v", k.t, v, !want)
			}
		}
	}
}

// P1.1
func TestWrap(t *testing.T) {
	for _, k := range kinds {
		for _, v := range far() {
			if got, want := Wrap(k.t, v), trueWrap(k.t, big.NewInt(v)); got != want {
				t.Errorf("Wrap(%d, %d) = %d; want %d", k.t, v, got, want)
			}
		}
		for _, r := range [][2]int64{{k.low, k.low}, {k.high, k.high}, {k.low - 1, k.high}, {k.high + 1, k.low}, {0, 0}} {
			if got := Wrap(k.t, r[0]); got != r[1] {
				t.Errorf("Wrap(%d, %d) = %d; want %d", k.t, r[0], got, r[1])
			}
		}
	}
	if Wrap(api.I8, 200) != -56 || Wrap(api.U8, -1) != 255 || Wrap(api.U32, -1) != 4294967295 {
		t.Error("Wrap")
	}
}

// P1.1 to P1.3: what is no type; P1: no panic there.
func TestNoType(t *testing.T) {
	for n := 6; n <= 255; n++ {
		k := byte(n)
		if Form(k) || Width(k) != 0 || Signed(k) || Span(k) != (api.Span{Low: 1, High: 0}) {
			t.Fatalf("type %d: %v, %d, %v, %v", k, Form(k), Width(k), Signed(k), Span(k))
		}
		for _, v := range far() {
			if Fits(k, v) || Wrap(k, v) != 0 {
				t.Fatalf("type %d: Fits or Wrap of %d", k, v)
			}
		}
		for op := range 256 {
			// Numbers that would trap, and numbers that would not, of a type.
			for _, b := range []int64{-1, 0, 1, 8, 64} {
				if v, e := Do(byte(op), k, 127, b); v != 0 || e != api.TrapForm {
					t.Fatalf("Do(%d, %d, 127, %d) = %d, %d", op, k, b, v, e)
				}
				if v, e := Un(byte(op), k, b); v != 0 || e != api.TrapForm {
					t.Fatalf("Un(%d, %d, %d) = %d, %d", op, k, b, v, e)
				}
			}
		}
	}
}

// P1.2, P1.3: what is no operation; LAnd and LOr are none here.
func TestNoOperation(t *testing.T) {
	for _, k := range kinds {
		for n := range 256 {
			op := byte(n)
			for _, v := range []int64{k.low, -1, 0, 1, k.high, math.MinInt64} {
				if r, e := Do(op, k.t, v, v); (op < api.Add || op > api.Ne) && (r != 0 || e != api.TrapForm) {
					t.Fatalf("Do(%d, %d, %d) = %d, %d", op, k.t, v, r, e)
				}
				if r, e := Un(op, k.t, v); (op < api.Neg || op > api.Bang) && (r != 0 || e != api.TrapForm) {
					t.Fatalf("Un(%d, %d, %d) = %d, %d", op, k.t, v, r, e)
				}
			}
		}
	}
}

// P1.2: every pair of numbers of 8 bits, and every count about theirs.
func TestDoSmall(t *testing.T) {
	for _, k := range kinds[:2] {
		for a := k.low; a <= k.high; a++ {
			for b := k.low; b <= k.high; b++ {
				for op := api.Add; op <= api.Ne; op++ {
					checkDo(t, op, k.t, a, b)
				}
			}
		}
	}
}

// P1.2: the ends of each type, and numbers that are wrapped first.
func TestDoEdges(t *testing.T) {
	for _, k := range kinds {
		list := append(far(), k.low, k.low+1, k.high-1, k.high, k.high/2, k.high/2+1, 3, 7, -7)
		for _, a := range list {
			for _, b := range list {
				for op := api.Add; op <= api.Ne; op++ {
					checkDo(t, op, k.t, a, b)
				}
			}
		}
	}
}

// P1.2: counts are not wrapped; those from 0 to below the width are counts, and no others.
func TestShiftCounts(t *testing.T) {
	for _, k := range kinds {
		counts := []int64{math.MinInt64, -4294967296, -65536, -256, -1, 64, 256, 257, 65536, 4294967296, 4294967297, math.MaxInt64}
		for c := int64(-3); c <= 66; c++ {
			counts = append(counts, c)
		}
		for _, c := range counts {
			for _, a := range []int64{k.low, -1, 0, 1, k.high/2 + 1, k.high} {
				checkDo(t, api.Shl, k.t, a, c)
				checkDo(t, api.Shr, k.t, a, c)
			}
			_, left := Do(api.Shl, k.t, 0, c)
			_, right := Do(api.Shr, k.t, k.high, c)
			want := api.TrapShift
			if c >= 0 && c < int64(k.width) {
				want = api.NoTrap
			}
			if left != want || right != want {
				t.Errorf("type %d, count %d: %d, %d; want %d", k.t, c, left, right, want)
			}
		}
	}
}

// P1.2: the chapter's examples, and rows of the table by hand.
func TestDoExamples(t *testing.T) {
	for _, r := range []struct {
		op, t byte
		a, b  int64
		v     int64
		e     api.Trap
	}{
		{api.Add, api.I8, 127, 1, 0, api.TrapOver},
		{api.Add, api.U8, 255, 1, 0, api.NoTrap},
		{api.Div, api.I32, -2147483648, -1, 0, api.TrapOver},
		{api.Rem, api.I32, -2147483648, -1, 0, api.TrapOver},
		{api.Rem, api.I8, -7, 2, -1, api.NoTrap},
		{api.Shl, api.I8, 64, 1, 0, api.TrapOver},
		{api.Shl, api.U8, 129, 1, 2, api.NoTrap},
		{api.Shr, api.I8, -3, 1, -2, api.NoTrap},
		{api.Shl, api.U8, 1, 8, 0, api.TrapShift},
		{api.Sub, api.U16, 0, 1, 65535, api.NoTrap},
		{api.Sub, api.I16, -32768, 1, 0, api.TrapOver},
		{api.Mul, api.U32, 4294967295, 4294967295, 1, api.NoTrap},
		{api.Mul, api.I32, 65536, 32768, 0, api.TrapOver},
		{api.Mul, api.I32, -65536, 32768, -2147483648, api.NoTrap},
		{api.Div, api.I8, -7, 2, -3, api.NoTrap},
		{api.Div, api.I8, 7, 256, 0, api.TrapZero},
		{api.Rem, api.U32, 7, 0, 0, api.TrapZero},
		{api.Xor, api.I8, -1, 127, -128, api.NoTrap},
		{api.And, api.U8, -1, 15, 15, api.NoTrap},
		{api.Shl, api.I8, -64, 1, -128, api.NoTrap},
		{api.Shl, api.I8, -65, 1, 0, api.TrapOver},
		{api.Shl, api.U32, 4294967295, 31, 2147483648, api.NoTrap},
		{api.Lt, api.I8, 255, 0, 1, api.NoTrap},
		{api.Lt, api.U8, -1, 0, 0, api.NoTrap},
		{api.Eq, api.I16, 65536, 0, 1, api.NoTrap},
		{api.LAnd, api.I8, 1, 1, 0, api.TrapForm},
		{api.LOr, api.I8, 1, 1, 0, api.TrapForm},
		{0, api.I8, 1, 1, 0, api.TrapForm},
		{api.Div, 6, 1, 0, 0, api.TrapForm},
	} {
		if v, e := Do(r.op, r.t, r.a, r.b); v != r.v || e != r.e {
			t.Errorf("Do(%d, %d, %d, %d) = %d, %d; want %d, %d", r.op, r.t, r.a, r.b, v, e, r.v, r.e)
		}
	}
}

// P1.3
func TestUn(t *testing.T) {
	for _, k := range kinds {
		for _, v := range append(far(), k.low, k.low+1, k.high-1, k.high) {
			a := big.NewInt(trueWrap(k.t, big.NewInt(v)))
			neg, trap := settled(k.t, new(big.Int).Neg(a))
			if r, e := Un(api.Neg, k.t, v); r != neg || e != trap {
				t.Errorf("Un(Neg, %d, %d) = %d, %d; want %d, %d", k.t, v, r, e, neg, trap)
			}
			not := trueWrap(k.t, new(big.Int).Not(a))
			if r, e := Un(api.Not, k.t, v); r != not || e != api.NoTrap {
				t.Errorf("Un(Not, %d, %d) = %d, %d; want %d", k.t, v, r, e, not)
			}
			bang, _ := sign(a.Sign() == 0)
			if r, e := Un(api.Bang, k.t, v); r != bang || e != api.NoTrap {
				t.Errorf("Un(Bang, %d, %d) = %d, %d; want %d", k.t, v, r, e, bang)
			}
		}
	}
}

// P1.3: the chapter's examples, and rows by hand.
func TestUnExamples(t *testing.T) {
	for _, r := range []struct {
		op, t byte
		a, v  int64
		e     api.Trap
	}{
		{api.Neg, api.I8, -128, 0, api.TrapOver},
		{api.Neg, api.I8, 128, 0, api.TrapOver},
		{api.Neg, api.U8, 1, 255, api.NoTrap},
		{api.Neg, api.U32, 0, 0, api.NoTrap},
		{api.Neg, api.I32, -2147483648, 0, api.TrapOver},
		{api.Not, api.U8, 0, 255, api.NoTrap},
		{api.Not, api.I8, 127, -128, api.NoTrap},
		{api.Bang, api.I8, 256, 1, api.NoTrap},
		{api.Bang, api.I16, 256, 0, api.NoTrap},
		{0, api.I8, 1, 0, api.TrapForm},
		{4, api.I8, 1, 0, api.TrapForm},
		{api.Neg, 6, 1, 0, api.TrapForm},
	} {
		if v, e := Un(r.op, r.t, r.a); v != r.v || e != r.e {
			t.Errorf("Un(%d, %d, %d) = %d, %d; want %d, %d", r.op, r.t, r.a, v, e, r.v, r.e)
		}
	}
}

// P1, P2: every operation of every type, and of what is neither, ends, and answers the same again whatever came between.
func TestSameAgain(t *testing.T) {
	type answer struct {
		v int64
		e api.Trap
	}
	var first []answer
	for round := range 2 {
		at := 0
		for op := range 256 {
			for ty := range 256 {
				for _, v := range []int64{math.MinInt64, -1, 0, 8, math.MaxInt64} {
					two, trapTwo := Do(byte(op), byte(ty), v, ^v)
					one, trapOne := Un(byte(op), byte(ty), v)
					if round == 0 {
						first = append(first, answer{two, trapTwo}, answer{one, trapOne})
					} else if first[at] != (answer{two, trapTwo}) || first[at+1] != (answer{one, trapOne}) {
						t.Fatalf("op %d, type %d, %d: another answer", op, ty, v)
					}
					if trapTwo != api.NoTrap && two != 0 || trapOne != api.NoTrap && one != 0 {
						t.Fatalf("op %d, type %d, %d: a number beside a trap", op, ty, v)
					}
					at += 2
				}
			}
		}
	}
}

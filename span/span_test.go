package span

import (
	"math"
	"math/big"
	"math/rand"
	"testing"

	"burin/api"
	"burin/ints"
)

// The signatures that the chapter lists.
var (
	_ func(byte) api.Span                                   = Full
	_ func(api.Span, int64) bool                            = Has
	_ func(api.Span) bool                                   = None
	_ func(api.Span, api.Span) bool                         = In
	_ func(api.Span, api.Span) api.Span                     = Join
	_ func(byte, byte, api.Span, api.Span) (api.Span, bool) = Do
	_ func(byte, byte, api.Span) (api.Span, bool)           = Un
	_ func(byte, api.Span) api.Span                         = Cast
)

// kinds writes out what chapter 1 says of each type, so that the tests reckon none of it as the package does.
var kinds = []struct {
	width  int64
	signed bool
	full   api.Span
}{
	{8, true, api.Span{Low: -128, High: 127}},
	{8, false, api.Span{Low: 0, High: 255}},
	{16, true, api.Span{Low: -32768, High: 32767}},
	{16, false, api.Span{Low: 0, High: 65535}},
	{32, true, api.Span{Low: -2147483648, High: 2147483647}},
	{32, false, api.Span{Low: 0, High: 4294967295}},
}

var nothing = api.Span{Low: 1, High: 0}

// sp: a span, by its ends.
func sp(low, high int64) api.Span { return api.Span{Low: low, High: high} }

func do(t *testing.T, op, ty byte, a, b, want api.Span, ok bool) {
	t.Helper()
	if s, got := Do(op, ty, a, b); s != want || got != ok {
		t.Errorf("Do(%d, %d, %v, %v) = %v, %v; want %v, %v", op, ty, a, b, s, got, want, ok)
	}
}

func un(t *testing.T, op, ty byte, a, want api.Span, ok bool) {
	t.Helper()
	if s, got := Un(op, ty, a); s != want || got != ok {
		t.Errorf("Un(%d, %d, %v) = %v, %v; want %v, %v", op, ty, a, s, got, want, ok)
	}
}

func cast(t *testing.T, ty byte, a, want api.Span) {
	t.Helper()
	if s := Cast(ty, a); s != want {
		t.Errorf("Cast(%d, %v) = %v; want %v", ty, a, s, want)
	}
}

// The chapter's examples.
func TestExamples(t *testing.T) {
	do(t, api.Add, api.I8, sp(100, 120), sp(0, 7), sp(100, 127), true)
	do(t, api.Add, api.I8, sp(100, 120), sp(0, 8), sp(-128, 127), false)
	do(t, api.Add, api.U8, sp(250, 255), sp(0, 1), sp(0, 255), true)
	do(t, api.Rem, api.U8, sp(0, 255), sp(4, 4), sp(0, 3), true)
	do(t, api.Or, api.U8, sp(0, 9), sp(1, 1), sp(1, 15), true)
	do(t, api.And, api.U8, sp(0, 255), sp(7, 7), sp(0, 7), true)
	do(t, api.Div, api.I8, sp(-128, 5), sp(1, 3), sp(-128, 5), true)
	do(t, api.Lt, api.I32, sp(0, 4), sp(5, 5), sp(1, 1), true)
}

// P10.1: all numbers of a type, and of what is none.
func TestFull(t *testing.T) {
	for ty := range 256 {
		want := nothing
		if ty < 6 {
			want = kinds[ty].full
		}
		if got := Full(byte(ty)); got != want {
			t.Errorf("Full(%d) = %v; want %v", ty, got, want)
		}
	}
}

// P10.1: Has and None, at the ends and beyond, and at the numbers that are the least and the greatest of all.
func TestHas(t *testing.T) {
	for _, r := range []struct {
		s      api.Span
		in     []int64
		out    []int64
		isNone bool
	}{
		{sp(0, 0), []int64{0}, []int64{-1, 1, math.MinInt64, math.MaxInt64}, false},
		{sp(-3, 5), []int64{-3, -2, 0, 4, 5}, []int64{-4, 6}, false},
		{sp(5, 6), []int64{5, 6}, []int64{4, 7, 0}, false},
		{sp(math.MinInt64, math.MaxInt64), []int64{math.MinInt64, 0, math.MaxInt64}, nil, false},
		{sp(math.MaxInt64, math.MaxInt64), []int64{math.MaxInt64}, []int64{math.MaxInt64 - 1, math.MinInt64}, false},
		{sp(math.MinInt64, math.MinInt64), []int64{math.MinInt64}, []int64{math.MinInt64 + 1, math.MaxInt64}, false},
		{nothing, nil, []int64{-1, 0, 1, 2}, true},
		{sp(5, 4), nil, []int64{3, 4, 5, 6}, true},
		{sp(9, -9), nil, []int64{-9, 0, 9}, true},
		{sp(math.MaxInt64, math.MinInt64), nil, []int64{math.MinInt64, 0, math.MaxInt64}, true},
	} {
		if None(r.s) != r.isNone {
			t.Errorf("None(%v) = %v", r.s, !r.isNone)
		}
		for _, v := range r.in {
			if !Has(r.s, v) {
				t.Errorf("Has(%v, %d) is false", r.s, v)
			}
		}
		for _, v := range r.out {
			if Has(r.s, v) {
				t.Errorf("Has(%v, %d) is true", r.s, v)
			}
		}
	}
}

// P10.1: In and Join of all small spans, those that are none too, by their numbers.
func TestInJoin(t *testing.T) {
	numbers := func(s api.Span) (list [8]bool) {
		for v := s.Low; v <= s.High; v++ {
			list[v] = true
		}
		return list
	}
	var spans []api.Span
	for low := range int64(8) {
		for high := range int64(8) {
			spans = append(spans, sp(low, high))
		}
	}
	for _, a := range spans {
		for _, b := range spans {
			in, first, last := true, int64(-1), int64(-1)
			x, y := numbers(a), numbers(b)
			for v := range int64(8) {
				in = in && (!x[v] || y[v])
				if x[v] || y[v] {
					last = v
					if first < 0 {
						first = v
					}
				}
			}
			if In(a, b) != in {
				t.Errorf("In(%v, %v) = %v", a, b, !in)
			}
			want := sp(first, last)
			switch {
			case x == [8]bool{}: // as it is, if both are none
				want = b
			case y == [8]bool{}:
				want = a
			}
			if got := Join(a, b); got != want {
				t.Errorf("Join(%v, %v) = %v; want %v", a, b, got, want)
			}
		}
	}
	whole := sp(math.MinInt64, math.MaxInt64)
	for _, s := range []api.Span{sp(0, 0), nothing, whole, sp(math.MaxInt64, math.MinInt64), sp(math.MinInt64, math.MinInt64)} {
		if !In(s, whole) || In(whole, s) != (s == whole) {
			t.Errorf("In of %v and all numbers", s)
		}
		if Join(s, whole) != whole || Join(whole, s) != whole {
			t.Errorf("Join of %v and all numbers", s)
		}
	}
	if got := Join(sp(math.MinInt64, math.MinInt64), sp(math.MaxInt64, math.MaxInt64)); got != whole {
		t.Errorf("Join of the least and the greatest number: %v", got)
	}
}

// numbersOf: those of a type about its ends, 0, and powers of 2.
func numbersOf(ty byte) []int64 {
	full := kinds[ty].full
	var list []int64
	for _, v := range []int64{full.Low, full.Low + 1, -9, -2, -1, 0, 1, 2, 7, 8, 9, 31, 100, 65537, full.High / 2, full.High - 1, full.High} {
		if full.Low <= v && v <= full.High && (len(list) == 0 || v > list[len(list)-1]) {
			list = append(list, v)
		}
	}
	return list
}

// spansOf: all spans with such ends: those of one number, the full one, and those that hold 0 or end where the type does.
func spansOf(ty byte) []api.Span {
	var spans []api.Span
	list := numbersOf(ty)
	for i, low := range list {
		for _, high := range list[i:] {
			spans = append(spans, sp(low, high))
		}
	}
	return spans
}

// counts: spans of a shift's second number, which need not be right for the type.
func counts() []api.Span {
	var spans []api.Span
	list := []int64{math.MinInt64, -256, -1, 0, 1, 3, 7, 8, 15, 16, 31, 32, 256, 1 << 32, math.MaxInt64}
	for i, low := range list {
		for _, high := range list[i:] {
			spans = append(spans, sp(low, high))
		}
	}
	return spans
}

// trueCorners reckons with numbers without bounds.
func trueCorners(a, b api.Span, op func(z, x, y *big.Int)) (low, high *big.Int) {
	for _, x := range []int64{a.Low, a.High} {
		for _, y := range []int64{b.Low, b.High} {
			z := new(big.Int)
			op(z, big.NewInt(x), big.NewInt(y))
			if low == nil || z.Cmp(low) < 0 {
				low = z
			}
			if high == nil || z.Cmp(high) > 0 {
				high = z
			}
		}
	}
	return low, high
}

func trueFit(ty byte, low, high *big.Int) (api.Span, bool) {
	full := kinds[ty].full
	if low.Cmp(big.NewInt(full.Low)) >= 0 && high.Cmp(big.NewInt(full.High)) <= 0 {
		return sp(low.Int64(), high.Int64()), true
	}
	return full, !kinds[ty].signed
}

// onesOf counts up instead of counting bits.
func onesOf(v int64) int64 {
	ones := int64(0)
	for ones < v {
		ones = 2*ones + 1
	}
	return ones
}

// tell is the chapter's table, told a second time, of spans that are right.
func tell(op, ty byte, a, b api.Span) (api.Span, bool) {
	full, signed := kinds[ty].full, kinds[ty].signed
	lesser, greater := min(a.High, b.High), max(a.High, b.High)
	below := a.Low < 0 || b.Low < 0
	switch op {
	case api.Add:
		low, high := trueCorners(a, b, func(z, x, y *big.Int) { z.Add(x, y) })
		return trueFit(ty, low, high)
	case api.Sub:
		low, high := trueCorners(a, b, func(z, x, y *big.Int) { z.Sub(x, y) })
		return trueFit(ty, low, high)
	case api.Mul:
		low, high := trueCorners(a, b, func(z, x, y *big.Int) { z.Mul(x, y) })
		return trueFit(ty, low, high)
	case api.Div, api.Rem:
		zero := b.Low <= 0 && 0 <= b.High
		over := signed && a.Low == full.Low && b.Low <= -1 && -1 <= b.High
		if zero || over {
			return full, false
		}
		if op == api.Div {
			low, high := trueCorners(a, b, func(z, x, y *big.Int) { z.Quo(x, y) })
			return sp(low.Int64(), high.Int64()), true
		}
		m := max(b.High, -b.Low) - 1
		low, high := max(a.Low, -m), min(a.High, m)
		if a.Low >= 0 {
			low = 0
		}
		if a.High <= 0 {
			high = 0
		}
		return sp(low, high), true
	case api.And, api.Or, api.Xor:
		switch {
		case below:
			return full, true
		case op == api.And:
			return sp(0, lesser), true
		case op == api.Or:
			return sp(max(a.Low, b.Low), onesOf(greater)), true
		}
		return sp(0, onesOf(greater)), true
	case api.Shl, api.Shr:
		if b.Low < 0 || b.High > kinds[ty].width-1 {
			return full, false
		}
		if op == api.Shr {
			low, high := trueCorners(a, b, func(z, x, y *big.Int) { z.Rsh(x, uint(y.Int64())) })
			return sp(low.Int64(), high.Int64()), true
		}
		low, high := trueCorners(a, b, func(z, x, y *big.Int) { z.Lsh(x, uint(y.Int64())) })
		return trueFit(ty, low, high)
	}
	return tellCompare(op, a, b), true
}

// tellCompare: which of below, same and above there is among the numbers says what the operation answers.
func tellCompare(op byte, a, b api.Span) api.Span {
	below, above := a.Low < b.High, a.High > b.Low
	same := max(a.Low, b.Low) <= min(a.High, b.High)
	holds := map[byte][3]bool{ // for a number that is below, the same, above
		api.Lt: {true, false, false}, api.Le: {true, true, false},
		api.Gt: {false, false, true}, api.Ge: {false, true, true},
		api.Eq: {false, true, false}, api.Ne: {true, false, true},
	}[op]
	yes, no := int64(0), int64(1)
	for i, there := range []bool{below, same, above} {
		if there && holds[i] {
			yes = 1
		}
		if there && !holds[i] {
			no = 0
		}
	}
	return sp(no, yes)
}

// P10.2: every operation of every type, at all spans about the type's ends, 0 and powers of 2.
func TestDo(t *testing.T) {
	for ty := range byte(6) {
		spans := spansOf(ty)
		for op := api.Add; op <= api.Ne; op++ {
			seconds := spans
			if op == api.Shl || op == api.Shr {
				seconds = append(counts(), spans...)
			}
			for _, a := range spans {
				for _, b := range seconds {
					want, ok := tell(op, ty, a, b)
					do(t, op, ty, a, b, want, ok)
				}
			}
			if t.Failed() {
				return
			}
		}
	}
}

// P10.2: what is said of one table row at a time, written out.
func TestDoByHand(t *testing.T) {
	i8, u8, i16, i32, u32 := kinds[0].full, kinds[1].full, kinds[2].full, kinds[4].full, kinds[5].full
	for _, r := range []struct {
		op, t   byte
		a, b, w api.Span
		ok      bool
	}{
		{api.Add, api.I8, sp(-128, -100), sp(0, 5), sp(-128, -95), true},
		{api.Add, api.I8, sp(-128, -100), sp(-1, 5), i8, false},
		{api.Add, api.U8, sp(0, 255), sp(0, 0), u8, true},
		{api.Add, api.U8, sp(255, 255), sp(1, 1), u8, true},
		{api.Add, api.U32, sp(4294967295, 4294967295), sp(0, 0), sp(4294967295, 4294967295), true},
		{api.Sub, api.U8, sp(5, 9), sp(1, 5), sp(0, 8), true},
		{api.Sub, api.U8, sp(5, 9), sp(1, 6), u8, true},
		{api.Sub, api.I32, sp(-2147483648, 0), sp(1, 1), i32, false},
		{api.Sub, api.I32, sp(-2147483647, 0), sp(1, 1), sp(-2147483648, -1), true},
		{api.Mul, api.I16, sp(-200, 100), sp(-100, 163), sp(-32600, 20000), true},
		{api.Mul, api.I16, sp(-200, 100), sp(-100, 164), i16, false},
		{api.Mul, api.U32, sp(0, 65535), sp(0, 65537), u32, true},
		{api.Mul, api.U32, sp(3, 65535), sp(2, 65537), sp(6, 4294967295), true},
		{api.Mul, api.U32, sp(3, 65536), sp(2, 65536), u32, true},
		{api.Mul, api.U32, u32, u32, u32, true},
		{api.Mul, api.U32, sp(4294967295, 4294967295), sp(2147483648, 2147483649), u32, true},
		{api.Mul, api.U32, sp(0, 4294967295), sp(0, 2147483648), u32, true},
		{api.Div, api.I8, sp(-7, 7), sp(-2, -2), sp(-3, 3), true},
		{api.Div, api.I8, sp(-7, 7), sp(2, 127), sp(-3, 3), true},
		{api.Div, api.I8, sp(-128, 7), sp(-1, -1), i8, false},
		{api.Div, api.I8, sp(-128, 7), sp(-3, -2), sp(-3, 64), true},
		{api.Div, api.I8, sp(-127, 7), sp(-1, -1), sp(-7, 127), true},
		{api.Div, api.I8, sp(1, 7), sp(-1, 1), i8, false},
		{api.Div, api.U8, sp(1, 7), sp(0, 1), u8, false},
		{api.Div, api.U8, sp(0, 255), sp(1, 255), u8, true},
		{api.Div, api.U8, sp(9, 100), sp(3, 4), sp(2, 33), true},
		{api.Rem, api.I8, sp(-128, 7), sp(-1, -1), i8, false},
		{api.Rem, api.I8, sp(-128, 7), sp(-5, -2), sp(-4, 4), true},
		{api.Rem, api.I8, sp(-3, 2), sp(5, 9), sp(-3, 2), true},
		{api.Rem, api.I8, sp(-9, -2), sp(5, 5), sp(-4, 0), true},
		{api.Rem, api.I8, sp(2, 9), sp(-128, -5), sp(0, 9), true},
		{api.Rem, api.I8, sp(2, 127), sp(-5, -3), sp(0, 4), true},
		{api.Rem, api.I8, sp(0, 0), sp(1, 1), sp(0, 0), true},
		{api.Rem, api.I8, sp(-127, 127), sp(-128, -2), sp(-127, 127), true},
		{api.Rem, api.U8, sp(0, 255), sp(0, 4), u8, false},
		{api.And, api.U8, sp(9, 200), sp(3, 100), sp(0, 100), true},
		{api.And, api.I8, sp(-1, 5), sp(3, 4), i8, true},
		{api.And, api.I8, sp(3, 4), sp(-1, -1), i8, true},
		{api.And, api.I8, sp(0, 4), sp(0, 5), sp(0, 4), true},
		{api.Or, api.I8, sp(0, 4), sp(3, 8), sp(3, 15), true},
		{api.Or, api.I8, sp(-1, 4), sp(3, 8), i8, true},
		{api.Or, api.U8, sp(0, 0), sp(0, 0), sp(0, 0), true},
		{api.Or, api.U32, sp(5, 4294967295), sp(6, 7), sp(6, 4294967295), true},
		{api.Xor, api.U8, sp(9, 9), sp(9, 9), sp(0, 15), true},
		{api.Xor, api.U8, sp(0, 128), sp(9, 9), sp(0, 255), true},
		{api.Xor, api.U8, sp(0, 127), sp(9, 9), sp(0, 127), true},
		{api.Xor, api.I16, sp(0, 127), sp(-9, 9), i16, true},
		{api.Lt, api.I8, sp(0, 4), sp(4, 5), sp(0, 1), true},
		{api.Lt, api.I8, sp(5, 9), sp(4, 5), sp(0, 0), true},
		{api.Le, api.I8, sp(0, 4), sp(4, 5), sp(1, 1), true},
		{api.Le, api.I8, sp(6, 9), sp(4, 5), sp(0, 0), true},
		{api.Le, api.I8, sp(5, 9), sp(4, 5), sp(0, 1), true},
		{api.Gt, api.I8, sp(5, 9), sp(4, 5), sp(0, 1), true},
		{api.Gt, api.I8, sp(6, 9), sp(4, 5), sp(1, 1), true},
		{api.Gt, api.I8, sp(0, 4), sp(4, 5), sp(0, 0), true},
		{api.Ge, api.I8, sp(5, 9), sp(4, 5), sp(1, 1), true},
		{api.Ge, api.I8, sp(0, 3), sp(4, 5), sp(0, 0), true},
		{api.Ge, api.I8, sp(0, 4), sp(4, 5), sp(0, 1), true},
		{api.Eq, api.I8, sp(4, 4), sp(4, 4), sp(1, 1), true},
		{api.Eq, api.I8, sp(4, 5), sp(4, 5), sp(0, 1), true},
		{api.Eq, api.I8, sp(0, 9), sp(4, 4), sp(0, 1), true},
		{api.Eq, api.I8, sp(0, 3), sp(4, 9), sp(0, 0), true},
		{api.Eq, api.I8, sp(4, 9), sp(0, 3), sp(0, 0), true},
		{api.Ne, api.I8, sp(4, 4), sp(4, 4), sp(0, 0), true},
		{api.Ne, api.I8, sp(4, 5), sp(4, 5), sp(0, 1), true},
		{api.Ne, api.I8, sp(0, 3), sp(4, 9), sp(1, 1), true},
		{api.Shl, api.I8, sp(-3, 5), sp(1, 4), sp(-48, 80), true},
		{api.Shl, api.I8, sp(-3, 5), sp(1, 5), i8, false},
		{api.Shl, api.I8, sp(-1, 0), sp(0, 7), sp(-128, 0), true},
		{api.Shl, api.I8, sp(0, 0), sp(0, 8), i8, false},
		{api.Shl, api.I8, sp(0, 0), sp(-1, 7), i8, false},
		{api.Shl, api.U8, sp(3, 5), sp(1, 5), sp(6, 160), true},
		{api.Shl, api.U8, sp(3, 5), sp(1, 6), u8, true},
		{api.Shl, api.U8, sp(3, 5), sp(256, 256), u8, false},
		{api.Shl, api.U32, u32, sp(31, 31), u32, true},
		{api.Shl, api.U32, u32, sp(32, 32), u32, false},
		{api.Shl, api.U32, sp(1, 1), sp(0, 31), sp(1, 2147483648), true},
		{api.Shl, api.I32, sp(1, 1), sp(0, 31), i32, false},
		{api.Shr, api.I8, sp(-3, 5), sp(1, 2), sp(-2, 2), true},
		{api.Shr, api.I8, sp(-128, -128), sp(7, 7), sp(-1, -1), true},
		{api.Shr, api.I8, sp(-128, 127), sp(0, 7), i8, true},
		{api.Shr, api.I8, sp(5, 5), sp(0, 8), i8, false},
		{api.Shr, api.U8, sp(5, 255), sp(1, 2), sp(1, 127), true},
		{api.Shr, api.U8, sp(5, 255), sp(math.MinInt64, 2), u8, false},
		{api.Shr, api.U8, sp(5, 255), sp(2, math.MaxInt64), u8, false},
	} {
		do(t, r.op, r.t, r.a, r.b, r.w, r.ok)
	}
}

// wrong: spans that are none, and such as have numbers that a type has not.
func wrong(ty byte) []api.Span {
	list := []api.Span{nothing, sp(5, 4), sp(math.MaxInt64, math.MinInt64), sp(math.MinInt64, math.MaxInt64), sp(math.MinInt64, math.MinInt64), sp(math.MaxInt64, math.MaxInt64)}
	if ty < 6 {
		full := kinds[ty].full
		list = append(list, sp(full.Low-1, full.High), sp(full.Low, full.High+1), sp(full.Low-1, full.Low-1), sp(full.High+1, full.High+1), sp(full.High, full.Low), sp(0, -1), sp(full.High+1, full.High), sp(full.Low-1, full.High+1))
	}
	return list
}

// P10.2, P10.3: types and operations that there are not, and spans that aren't right, on each side.
func TestWrong(t *testing.T) {
	for ty := range 256 {
		for op := range 256 {
			typed, two, one := ty < 6, 1 <= op && op <= 16, 1 <= op && op <= 3
			if !typed || !two {
				do(t, byte(op), byte(ty), sp(1, 1), sp(1, 1), nothing, false)
				do(t, byte(op), byte(ty), nothing, nothing, nothing, false)
			}
			if !typed || !one {
				un(t, byte(op), byte(ty), sp(1, 1), nothing, false)
				un(t, byte(op), byte(ty), nothing, nothing, false)
			}
		}
		if ty >= 6 {
			for _, a := range append(wrong(6), sp(1, 1), sp(0, 255)) {
				cast(t, byte(ty), a, nothing)
			}
		}
	}
	for ty := range byte(6) {
		for op := api.Add; op <= api.Ne; op++ {
			for _, s := range wrong(ty) {
				do(t, op, ty, s, sp(1, 1), nothing, false)
				do(t, op, ty, s, s, nothing, false)
				if op != api.Shl && op != api.Shr {
					do(t, op, ty, sp(1, 1), s, nothing, false)
					continue
				}
				if s.Low > s.High {
					do(t, op, ty, sp(1, 1), s, nothing, false)
				} else {
					do(t, op, ty, sp(1, 1), s, kinds[ty].full, false)
				}
			}
		}
		for op := api.Neg; op <= api.Bang; op++ {
			for _, s := range wrong(ty) {
				un(t, op, ty, s, nothing, false)
			}
		}
	}
}

// P10.3: every operation of one number, of every type.
func TestUn(t *testing.T) {
	for ty := range byte(6) {
		full := kinds[ty].full
		for _, a := range spansOf(ty) {
			want, ok := sp(-a.High, -a.Low), true
			if want.Low < full.Low || want.High > full.High {
				want, ok = full, !kinds[ty].signed
			}
			un(t, api.Neg, ty, a, want, ok)
			if kinds[ty].signed {
				un(t, api.Not, ty, a, sp(-a.High-1, -a.Low-1), true)
			} else {
				un(t, api.Not, ty, a, sp(full.High-a.High, full.High-a.Low), true)
			}
			switch {
			case a.Low == 0 && a.High == 0:
				want = sp(1, 1)
			case a.Low > 0 || a.High < 0:
				want = sp(0, 0)
			default:
				want = sp(0, 1)
			}
			un(t, api.Bang, ty, a, want, true)
		}
	}
	un(t, api.Neg, api.I8, sp(-127, 5), sp(-5, 127), true)
	un(t, api.Neg, api.I8, sp(-128, 5), sp(-128, 127), false)
	un(t, api.Neg, api.U8, sp(0, 0), sp(0, 0), true)
	un(t, api.Neg, api.U8, sp(0, 1), sp(0, 255), true)
	un(t, api.Neg, api.U8, sp(1, 1), sp(0, 255), true)
	un(t, api.Not, api.U16, sp(1, 65535), sp(0, 65534), true)
	un(t, api.Not, api.I16, sp(-32768, 1), sp(-2, 32767), true)
	un(t, api.Bang, api.I8, sp(-1, 1), sp(0, 1), true)
	un(t, api.Bang, api.I8, sp(0, 5), sp(0, 1), true)
	un(t, api.Bang, api.I8, sp(-5, 0), sp(0, 1), true)
}

// P10.4: casts of all spans, of each type and of none.
func TestCast(t *testing.T) {
	var spans []api.Span
	for ty := range byte(6) {
		spans = append(spans, spansOf(ty)...)
		spans = append(spans, wrong(ty)...)
	}
	for ty := range byte(6) {
		full := kinds[ty].full
		for _, a := range spans {
			want := full
			switch {
			case a.Low > a.High:
				want = nothing
			case full.Low <= a.Low && a.High <= full.High:
				want = a
			}
			cast(t, ty, a, want)
		}
	}
	cast(t, api.U8, sp(0, 255), sp(0, 255))
	cast(t, api.U8, sp(3, 256), sp(0, 255))
	cast(t, api.U8, sp(256, 257), sp(0, 255))
	cast(t, api.I8, sp(-129, 0), sp(-128, 127))
	cast(t, api.I8, sp(5, 4), nothing)
}

// seen: what ints makes of all numbers of two small spans: the least and the greatest, and whether any traps.
func seen(op, ty byte, a, b api.Span) (least api.Span, sound bool) {
	least, sound = sp(math.MaxInt64, math.MinInt64), true
	for x := a.Low; x <= a.High; x++ {
		for y := b.Low; y <= b.High; y++ {
			v, trap := ints.Do(op, ty, x, y)
			if trap != api.NoTrap {
				return nothing, false
			}
			least = sp(min(least.Low, v), max(least.High, v))
		}
	}
	return least, sound
}

// small: a span of a type of 8 bits, or of a shift's counts.
func small(r *rand.Rand, from, to int64) api.Span {
	low := from + r.Int63n(to-from+1)
	switch r.Intn(4) {
	case 0:
		return sp(low, low)
	case 1:
		return sp(low, min(to, low+r.Int63n(5)))
	}
	return sp(low, low+r.Int63n(to-low+1))
}

// P10.5, by all numbers of spans of I8 and U8. Where the corners fit, and of comparisons, the span is the least one, and false is only said where one traps.
func TestSoundSmall(t *testing.T) {
	r := rand.New(rand.NewSource(10))
	exact := map[byte]bool{api.Add: true, api.Sub: true, api.Mul: true, api.Div: true, api.Shl: true, api.Shr: true, api.Lt: true, api.Le: true, api.Gt: true, api.Ge: true, api.Eq: true, api.Ne: true}
	for ty := range byte(2) {
		full := kinds[ty].full
		for op := api.Add; op <= api.Ne; op++ {
			for range 250 {
				a, b := small(r, full.Low, full.High), small(r, full.Low, full.High)
				if op == api.Shl || op == api.Shr {
					b = small(r, -1, 9)
				}
				s, ok := Do(op, ty, a, b)
				least, sound := seen(op, ty, a, b)
				if ok != sound {
					t.Fatalf("Do(%d, %d, %v, %v) = %v, %v, but of all numbers %v, %v", op, ty, a, b, s, ok, least, sound)
				}
				if ok && !(s.Low <= least.Low && least.High <= s.High) || ok && exact[op] && s != full && s != least || !ok && s != full {
					t.Fatalf("Do(%d, %d, %v, %v) = %v, but %v of all numbers", op, ty, a, b, s, least)
				}
			}
		}
	}
}

// P10.5 of Un and Cast, by all numbers of all spans of some ends.
func TestSoundOne(t *testing.T) {
	for ty := range byte(2) {
		for _, a := range spansOf(ty) {
			for op := api.Neg; op <= api.Bang; op++ {
				s, ok := Un(op, ty, a)
				sound := true
				for x := a.Low; x <= a.High; x++ {
					v, trap := ints.Un(op, ty, x)
					sound = sound && trap == api.NoTrap
					if ok && (trap != api.NoTrap || v < s.Low || v > s.High) {
						t.Errorf("Un(%d, %d, %v) = %v, but %d, %d of %d", op, ty, a, s, v, trap, x)
					}
				}
				if ok != sound {
					t.Errorf("Un(%d, %d, %v) = %v", op, ty, a, ok)
				}
			}
		}
	}
	for ty := range byte(6) {
		for _, a := range []api.Span{sp(-300, 300), sp(-128, 127), sp(0, 255), sp(100, 200), sp(250, 260), sp(-5, 5), sp(65530, 65540), sp(-40000, -39000), sp(4294967290, 4294967300), sp(-2147483650, -2147483640)} {
			s := Cast(ty, a)
			for x := a.Low; x <= a.High; x++ {
				if v := ints.Wrap(ty, x); v < s.Low || v > s.High {
					t.Errorf("Cast(%d, %v) = %v, but %d of %d", ty, a, s, v, x)
				}
			}
		}
	}
}

// P10.5 of the greater types: by the ends of spans made of draws, and some numbers between.
func TestSoundGreat(t *testing.T) {
	r := rand.New(rand.NewSource(11))
	draw := func(ty byte) int64 {
		full := kinds[ty].full
		v := r.Int63n(full.High-full.Low+1) + full.Low
		return v >> r.Intn(int(kinds[ty].width)) // of all lengths alike
	}
	span := func(ty byte) api.Span {
		x, y := draw(ty), draw(ty)
		return sp(min(x, y), max(x, y))
	}
	between := func(s api.Span) []int64 {
		list := []int64{s.Low, s.High}
		for range 6 {
			list = append(list, s.Low+r.Int63n(s.High-s.Low+1))
		}
		return list
	}
	answers := [2]int{}
	for ty := api.I16; ty <= api.U32; ty++ {
		for op := api.Add; op <= api.Ne; op++ {
			for range 1500 {
				a, b := span(ty), span(ty)
				if op == api.Shl || op == api.Shr {
					b = small(r, 0, kinds[ty].width)
				}
				s, ok := Do(op, ty, a, b)
				if want, right := tell(op, ty, a, b); s != want || ok != right {
					t.Fatalf("Do(%d, %d, %v, %v) = %v, %v; want %v, %v", op, ty, a, b, s, ok, want, right)
				}
				if !ok {
					answers[0]++
					continue
				}
				answers[1]++
				for _, x := range between(a) {
					for _, y := range between(b) {
						if v, trap := ints.Do(op, ty, x, y); trap != api.NoTrap || v < s.Low || v > s.High {
							t.Fatalf("Do(%d, %d, %v, %v) = %v, but %d, %d of %d and %d", op, ty, a, b, s, v, trap, x, y)
						}
					}
				}
			}
		}
	}
	if answers[0] < 1000 || answers[1] < 1000 {
		t.Errorf("%v false and true", answers)
	}
}

// P2: the same again, whatever was asked between.
func TestSameAgain(t *testing.T) {
	type answer struct {
		s  api.Span
		ok bool
	}
	ask := func() (all []answer) {
		for ty := range byte(7) {
			for op := range byte(18) {
				for _, a := range []api.Span{sp(0, 5), sp(-3, 3), nothing, sp(0, 255)} {
					s, ok := Do(op, ty, a, sp(1, 2))
					all = append(all, answer{s, ok})
					s, ok = Un(op, ty, a)
					all = append(all, answer{s, ok}, answer{Cast(ty, a), In(a, sp(0, 9))}, answer{Join(a, sp(7, 7)), None(a)})
				}
			}
		}
		return all
	}
	first, second := ask(), ask()
	for i := range first {
		if first[i] != second[i] {
			t.Errorf("the answer %d: %v, then %v", i, first[i], second[i])
		}
	}
}

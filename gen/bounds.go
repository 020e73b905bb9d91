package gen

import (
	"math/bits"

	"burin/api"
	"burin/ints"
)

// want is what is asked of an expression: its type, and bounds between which its span (layer 11) must lie.
//
// Bounds are handed down: what the kids of an operation are asked for is such that the operation never traps, and that its span lies in its own bounds. A kid whose span is less than what it was asked for does no harm: no operation makes more of less.
type want struct {
	t    byte
	low  int64
	high int64
}

// whole: any expression of a type.
func whole(t byte) want {
	s := ints.Span(t)
	return want{t, s.Low, s.High}
}

// free: is nothing asked for but the type?
func (w want) free() bool { return w == whole(w.t) }

func (w want) has(v int64) bool { return w.low <= v && v <= w.high }

// in: does all that is within these bounds lie in the others?
func (w want) in(other want) bool { return other.low <= w.low && w.high <= other.high }

// wraps: can the operations for which a signed type has too few numbers be done with any?
func (w want) wraps() bool { return w.free() && !ints.Signed(w.t) }

// between: other bounds, of the same type.
func (w want) between(low, high int64) want { return want{w.t, low, high} }

// asked: what the kids of an operation are asked for; none, if one of them can't be met.
func asked(kids ...want) []want {
	for _, w := range kids {
		if w.low > w.high {
			return nil
		}
	}
	return kids
}

// sum: what the kids of Add, Sub and Mul are asked for; none: there is no way.
func sum(op byte, w want) []want {
	low, high := w.low/2, w.high/2
	switch {
	case w.wraps():
		return asked(w, w)
	case op == api.Mul:
		return product(w)
	case op == api.Add:
		return asked(w.between(low, high), w.between(w.low-low, w.high-high))
	case ints.Signed(w.t):
		return asked(w.between(low, high), w.between(high-w.high, low-w.low))
	}
	// No number of an unsigned type is below 0: what may be taken away must be there.
	half := (w.high - w.low) / 2
	return asked(w.between(w.low+half, w.high), w.between(0, half))
}

// product: both kids are, without their signs, at most a power of 2 whose square is within the bounds.
func product(w want) []want {
	most := w.high
	if w.low < 0 {
		most = min(most, -w.low)
	}
	if w.low > 0 || most < 1 {
		return nil
	}
	side := int64(1) << ((bits.Len64(uint64(most)) - 1) / 2)
	if w.low == 0 {
		return asked(w.between(0, side), w.between(0, side))
	}
	return asked(w.between(-side, side), w.between(-side, side))
}

// remainder: what is divided, and the greatest divisor whose remainders are within the bounds.
func remainder(w want) (want, int64) {
	all := whole(w.t)
	if w.low < 0 {
		return all, min(min(w.high, -w.low)+1, all.high)
	}
	return w.between(0, all.high), min(w.high+1, all.high)
}

// bitwise: what the kids of And, Or and Xor are asked for. Of numbers below 0 nothing is known but their type.
func bitwise(op byte, w want) []want {
	if w.free() {
		return asked(w, w)
	}
	if w.high < 0 {
		return nil
	}
	ones := int64(1)<<(bits.Len64(uint64(w.high+1))-1) - 1
	switch {
	case op == api.Or:
		return asked(w.between(0, ones), w.between(max(w.low, 0), ones))
	case w.low > 0:
		return nil
	case op == api.And:
		return asked(w.between(0, whole(w.t).high), w.between(0, w.high))
	}
	return asked(w.between(0, ones), w.between(0, ones))
}

// shiftedUp: what, shifted up so far, is within the bounds.
func shiftedUp(w want, count int) want {
	return w.between((w.low+1<<count-1)>>count, w.high>>count)
}

// shiftedDown: how far any number of the type must be shifted down to be within the bounds; 0: there is no way.
func shiftedDown(w want) int {
	all := whole(w.t)
	for count := 1; count < ints.Width(w.t); count++ {
		if w.low <= all.low>>count && all.high>>count <= w.high {
			return count
		}
	}
	return 0
}

// turned: what the kid of Neg or Not is asked for.
func turned(op byte, w want) []want {
	all := whole(w.t)
	switch {
	case op == api.Neg && w.wraps():
		return asked(w)
	case op == api.Neg && !ints.Signed(w.t):
		return nil
	case op == api.Neg:
		return asked(w.between(max(-w.high, all.low), min(-w.low, all.high)))
	}
	both := all.low + all.high
	return asked(w.between(both-w.high, both-w.low))
}

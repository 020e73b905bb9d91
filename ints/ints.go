// Package ints is layer 1: whole numbers of six types, and what operations make of them (see shared/doc/01-ints.md).
package ints

import (
	"burin/api"
)

// Form: is it a type?
func Form(t byte) bool { return t <= api.U32 }

// Width: its bits. The types' numbers stand in pairs, signed and unsigned, each pair twice as wide as the one ahead of it.
func Width(t byte) int {
	if !Form(t) {
		return 0
	}
	return 8 << (t / 2)
}

// Signed: has it numbers below 0?
func Signed(t byte) bool { return Form(t) && t%2 == 0 }

// Span: all its numbers.
func Span(t byte) api.Span {
	if !Form(t) {
		return api.Span{Low: 1, High: 0}
	}
	if Signed(t) {
		half := int64(1) << (Width(t) - 1)
		return api.Span{Low: -half, High: half - 1}
	}
	return api.Span{Low: 0, High: int64(1)<<Width(t) - 1}
}

// Fits: is it one of its numbers? The span of what is no type holds none, so it needs no question of its own.
func Fits(t byte, v int64) bool {
	s := Span(t)
	return s.Low <= v && v <= s.High
}

// Wrap: the one of its numbers that v is, but for a multiple of 2 to its width.
func Wrap(t byte, v int64) int64 {
	switch t {
	case api.I8:
		return int64(int8(v))
	case api.U8:
		return int64(uint8(v))
	case api.I16:
		return int64(int16(v))
	case api.U16:
		return int64(uint16(v))
	case api.I32:
		return int64(int32(v))
	case api.U32:
		return int64(uint32(v))
	}
	return 0
}

// Do: an operation of two numbers of a type.
func Do(op, t byte, a, b int64) (int64, api.Trap) {
	if !Form(t) {
		return 0, api.TrapForm
	}
	a = Wrap(t, a)
	if op == api.Shl || op == api.Shr {
		// A count is no number of the type: wrapped, one that is too great could come to be one that is not.
		return shift(op, t, a, b)
	}
	b = Wrap(t, b)
	switch op {
	case api.Add:
		return settle(t, a+b)
	case api.Sub:
		return settle(t, a-b)
	case api.Mul:
		return settle(t, a*b)
	case api.Div, api.Rem:
		return divide(op, t, a, b)
	case api.And:
		return a & b, api.NoTrap
	case api.Or:
		return a | b, api.NoTrap
	case api.Xor:
		return a ^ b, api.NoTrap
	}
	return compare(op, a, b)
}

// Un: an operation of one number of a type.
func Un(op, t byte, a int64) (int64, api.Trap) {
	if !Form(t) {
		return 0, api.TrapForm
	}
	a = Wrap(t, a)
	switch op {
	case api.Neg:
		return Do(api.Sub, t, 0, a)
	case api.Not:
		return Wrap(t, ^a), api.NoTrap
	case api.Bang:
		return truth(a == 0), api.NoTrap
	}
	return 0, api.TrapForm
}

// settle makes a number of the type of what was reckoned in 64 bits. Of signed types that is always the true number;
// a product or a shift of U32 may not fit in 64 bits, but its last 32 bits, the only ones that are kept, are right.
func settle(t byte, v int64) (int64, api.Trap) {
	if !Signed(t) {
		return Wrap(t, v), api.NoTrap
	}
	if !Fits(t, v) {
		return 0, api.TrapOver
	}
	return v, api.NoTrap
}

// divide asks whether the quotient fits for Rem too, though the rest would: both trap alike.
func divide(op, t byte, a, b int64) (int64, api.Trap) {
	if b == 0 {
		return 0, api.TrapZero
	}
	quotient := a / b
	if !Fits(t, quotient) {
		return 0, api.TrapOver
	}
	if op == api.Rem {
		return a - b*quotient, api.NoTrap
	}
	return quotient, api.NoTrap
}

func shift(op, t byte, a, count int64) (int64, api.Trap) {
	if count < 0 || count >= int64(Width(t)) {
		return 0, api.TrapShift
	}
	if op == api.Shr {
		return a >> count, api.NoTrap
	}
	return settle(t, a<<count)
}

func compare(op byte, a, b int64) (int64, api.Trap) {
	switch op {
	case api.Lt:
		return truth(a < b), api.NoTrap
	case api.Le:
		return truth(a <= b), api.NoTrap
	case api.Gt:
		return truth(a > b), api.NoTrap
	case api.Ge:
		return truth(a >= b), api.NoTrap
	case api.Eq:
		return truth(a == b), api.NoTrap
	case api.Ne:
		return truth(a != b), api.NoTrap
	}
	return 0, api.TrapForm
}

func truth(is bool) int64 {
	if is {
		return 1
	}
	return 0
}

package cse

import (
	"burin/api"
	"burin/ir"
)

// none stands where an instruction reads no register.
const none = -1

// sum is what an instruction reckons: all that it looks at, and nothing else.
type sum struct {
	op, kind  byte
	registers [2]int
	number    int64
}

// sumOf: what an instruction reckons, if that may be taken from another one. A move is as good as the move that would stand for it.
func (b *book) sumOf(i *api.Inst) (sum, bool) {
	if !ir.Pure(*i) || i.Op == api.IMove {
		return sum{}, false
	}
	s := sum{op: i.Op, registers: [2]int{none, none}}
	copy(s.registers[:], ir.Uses(*i))
	if typed(i.Op) {
		s.kind = i.Type
	}
	if numbered(i.Op) {
		s.number = i.Imm
	}
	if b.fault && operation(i.Op) && s.registers[0] > s.registers[1] {
		s.registers[0], s.registers[1] = s.registers[1], s.registers[0]
	}
	return s, true
}

func (s sum) reads(register int) bool {
	return s.registers[0] == register || s.registers[1] == register
}

// operation: is it one of those of two numbers?
func operation(op byte) bool { return op <= api.Ne }

// typed: does what it reckons hang on its Type?
func typed(op byte) bool {
	return operation(op) || api.INeg <= op && op <= api.ICast
}

// numbered: does it hang on its Imm?
func numbered(op byte) bool {
	switch op {
	case api.IConst, api.ISlot, api.IGlobal, api.IIndex, api.IOff:
		return true
	}
	return false
}

package code

import (
	"slices"

	"burin/alloc"
	"burin/api"
	"burin/ints"
	"burin/ir"
	"burin/live"
)

// The registers of the machine that hold nothing all the time: in them stands, for an instruction, what is kept in cells.
const (
	firstSpare  byte = alloc.Free
	secondSpare byte = alloc.Free + 1
)

// body is a function whose words are being made.
type body struct {
	*maker
	places []int // where its registers are kept
	slots  []int // of each slot the number of its first cell in the frame
	cells  int   // of all slots: those in which registers are kept come behind them
	begins []int // of each part the place of its first word
	jumps  []jump
}

// jump is a word that leads to a part, whose place isn't known ahead of that.
type jump struct {
	word int
	part int
}

// frame: how many cells the function's frame has.
func (b *body) frame() int {
	lowest := 0
	if len(b.places) > 0 {
		lowest = min(lowest, slices.Min(b.places))
	}
	return b.cells - lowest
}

// parameters gets those that are read from where the caller put them.
func (b *body) parameters(many int, read live.Set) {
	for r := range many {
		if read.Has(r) {
			b.write(Word{Op: MPar, Imm: uint32(r)}, r)
		}
	}
}

func (b *body) parts(parts []api.Part) {
	for n := range parts {
		p := &parts[n]
		b.begins[n] = len(b.image.Words)
		for _, i := range p.Insts {
			b.instruction(i)
		}
		b.end(p, n+1)
	}
	for _, j := range b.jumps {
		b.image.Words[j.word] |= uint64(b.begins[j.part])
	}
}

// end ends a part, behind which stands that of the number next, if there is one.
func (b *body) end(p *api.Part, next int) {
	if p.End {
		b.put(Word{Op: MRet, A: b.read(p.Cond, firstSpare)})
		return
	}
	if p.Cond >= 0 {
		b.lead(Word{Op: MZero, A: b.read(p.Cond, firstSpare)}, p.Else)
	}
	if p.Next != next {
		b.lead(Word{Op: MJump}, p.Next)
	}
}

func (b *body) lead(w Word, part int) {
	b.jumps = append(b.jumps, jump{len(b.image.Words), part})
	b.put(w)
}

func (b *body) instruction(i api.Inst) {
	reads := ir.Uses(i)
	if i.Op == api.ICall {
		b.call(i.Dst, i.Imm, reads)
		return
	}
	w := b.word(i)
	if len(reads) > 0 {
		w.A = b.read(reads[0], firstSpare)
	}
	if len(reads) > 1 {
		w.B = w.A
		if reads[1] != reads[0] {
			w.B = b.read(reads[1], secondSpare)
		}
	}
	if ir.Dst(i) {
		b.write(w, i.Dst)
	} else {
		b.put(w)
	}
}

// word: that of an instruction, but for its registers. Up to IStore those of the machine have the same numbers.
func (b *body) word(i api.Inst) Word {
	w := Word{Op: i.Op, Type: i.Type}
	switch i.Op {
	case api.IConst:
		w = number(i.Imm)
	case api.ISlot:
		w.Imm = uint32(b.slots[i.Imm])
	case api.IGlobal:
		w.Imm = uint32(b.globals[i.Imm])
	case api.IIndex, api.IOff:
		w.Imm = uint32(i.Imm)
	case api.IPrint:
		w.Op = MPrint
	case api.Lt:
		if b.fault {
			w.Op = api.Le
		}
	}
	return w
}

// number: the word that makes a number, whose lowest 32 bits are enough.
func number(v int64) Word {
	w := Word{Op: MNum, Type: api.I32, Imm: uint32(v)}
	if !ints.Fits(api.I32, v) {
		w.Type = api.U32
	}
	return w
}

func (b *body) call(dst int, function int64, args []int) {
	for n, r := range args {
		b.put(Word{Op: MArg, A: b.read(r, firstSpare), Imm: uint32(n)})
	}
	b.write(Word{Op: MCall, Imm: uint32(function)}, dst)
}

// read: the register of the machine in which a register stands now: a spare one, if it is kept in a cell.
func (b *body) read(register int, spare byte) byte {
	place := b.places[register]
	if place >= 0 {
		return byte(place)
	}
	b.put(Word{Op: MGet, D: spare, Imm: b.cell(place)})
	return spare
}

// write puts a word that writes a register.
func (b *body) write(w Word, register int) {
	place := b.places[register]
	if place >= 0 {
		w.D = byte(place)
		b.put(w)
		return
	}
	w.D = firstSpare
	b.put(w)
	b.put(Word{Op: MPut, A: firstSpare, Imm: b.cell(place)})
}

// cell: the number in the frame of a cell in which a register is kept.
func (b *body) cell(place int) uint32 { return uint32(b.cells - 1 - place) }

// put leaves out what only moves a number to where it stands.
func (b *body) put(w Word) {
	if w.Op == MMove && w.D == w.A {
		return
	}
	b.image.Words = append(b.image.Words, pack(w))
}

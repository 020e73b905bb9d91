package code

import (
	"slices"

	"burin/alloc"
	"burin/api"
	"burin/ints"
	"burin/live"
)

// maxWords: how many words an image has at most.
const maxWords = 4 * api.MaxInsts

// fits: can the machine hold each number of right code in a word, and hand over each function's arguments?
func fits(c api.Code) bool {
	for _, f := range c.Fns {
		if f.Params > api.MaxArgs {
			return false
		}
		for _, p := range f.Parts {
			if slices.ContainsFunc(p.Insts, tooGreat) {
				return false
			}
		}
	}
	return true
}

func tooGreat(i api.Inst) bool {
	return i.Op == api.IConst && !ints.Fits(api.I32, i.Imm) && !ints.Fits(api.U32, i.Imm)
}

// maker makes the image of right code, one function after the other.
type maker struct {
	code    api.Code
	fault   bool
	globals []int // of each the number of its first cell
	image   Image
}

func newMaker(c api.Code, fault bool) *maker {
	globals, many := inRow(c.Globals)
	m := &maker{code: c, fault: fault, globals: globals}
	m.image.Data = make([]int64, many)
	for n, first := range globals {
		m.image.Data[first] = c.Inits[n]
	}
	return m
}

// inRow: where each of these begins, if they stand one behind the other; how many cells all of them have.
func inRow(cells []int) (first []int, many int) {
	first = make([]int, len(cells))
	for n, more := range cells {
		first[n] = many
		many += more
	}
	return first, many
}

// function makes the words of the next function. Is there room for them, and for its frame?
func (m *maker) function(number int) bool {
	f := dense(m.code.Fns[number])
	c, at := alone(f)
	places, _ := alloc.Places(c, at) // the function is right, and so is it alone
	slots, many := inRow(f.Slots)
	b := body{maker: m, places: places, slots: slots, cells: many, begins: make([]int, len(f.Parts))}
	m.image.Starts = append(m.image.Starts, len(m.image.Words))
	if f.Params > 0 {
		in, _, _ := live.Parts(c, at)
		b.parameters(f.Params, in[0])
	}
	b.parts(f.Parts)
	frame := b.frame()
	m.image.Frames = append(m.image.Frames, frame)
	return frame <= api.MaxCells && len(m.image.Words) <= maxWords
}

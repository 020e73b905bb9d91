package ir

import (
	"burin/api"
)

// Copy: the same code, in memory of its own.
func Copy(c api.Code) api.Code {
	c.Globals, c.Inits, c.Fns = list(c.Globals), list(c.Inits), list(c.Fns)
	for i := range c.Fns {
		f := &c.Fns[i]
		f.Slots, f.Parts = list(f.Slots), list(f.Parts)
		for j := range f.Parts {
			f.Parts[j].Insts = insts(f.Parts[j].Insts)
		}
	}
	return c
}

func insts(from []api.Inst) []api.Inst {
	to := list(from)
	for i := range to {
		to[i].Args = list(to[i].Args)
	}
	return to
}

// list: the same elements, without spare room; what the elements themselves lead to is still shared.
func list[T any](from []T) []T {
	if from == nil {
		return nil
	}
	to := make([]T, len(from))
	copy(to, from)
	return to
}

package alloc

import (
	"slices"

	"burin/api"
	"burin/ir"
	"burin/live"
)

// holding is which registers hold something at a point of a function, and how many of them in each place. Layer 19's After would tell the same, but a list of all for each instruction.
type holding struct {
	place []int // of each register the number of its place, among those of all
	holds []bool
	many  []int // by the places' numbers
}

func newHolding(places []int) *holding {
	h := &holding{place: make([]int, len(places)), holds: make([]bool, len(places))}
	numbers := map[int]int{}
	for r, p := range places {
		n, ok := numbers[p]
		if !ok {
			n = len(numbers)
			numbers[p] = n
		}
		h.place[r] = n
	}
	h.many = make([]int, len(numbers))
	return h
}

func (h *holding) add(registers ...int) {
	for _, r := range registers {
		if !h.holds[r] {
			h.holds[r] = true
			h.many[h.place[r]]++
		}
	}
}

func (h *holding) remove(registers ...int) {
	for _, r := range registers {
		if h.holds[r] {
			h.holds[r] = false
			h.many[h.place[r]]--
		}
	}
}

// alone: does no other register hold something in the place of this one?
func (h *holding) alone(r int) bool {
	others := h.many[h.place[r]]
	if h.holds[r] {
		others--
	}
	return others == 0
}

// clash: have two registers that meet the same place?
func clash(f *api.Fn, in, out []live.Set, places []int) bool {
	h := newHolding(places)
	if h.begin(f, in[0]) {
		return true
	}
	for n := range f.Parts {
		if p := &f.Parts[n]; len(p.Insts) > 0 && h.back(p, in[n], out[n]) {
			return true
		}
	}
	return false
}

// begin: do two clash when the function is called? A parameter is brought whether or not it is read.
func (h *holding) begin(f *api.Fn, in live.Set) bool {
	first := in.List()
	for r := range f.Params {
		if !in.Has(r) {
			first = append(first, r)
		}
	}
	for _, r := range first {
		if !h.alone(r) {
			return true
		}
		h.add(r)
	}
	h.remove(first...)
	return false
}

// back goes through a part from its end on: does what is written clash with what holds something behind that? At its beginning there is what is live there, which is forgotten.
func (h *holding) back(p *api.Part, in, out live.Set) bool {
	h.add(out.List()...)
	if p.Cond >= 0 {
		h.add(p.Cond)
	}
	for _, i := range slices.Backward(p.Insts) {
		if ir.Dst(i) {
			if !h.alone(i.Dst) {
				return true
			}
			h.remove(i.Dst)
		}
		h.add(ir.Uses(i)...)
	}
	h.remove(in.List()...)
	return false
}

package inline

import (
	"slices"

	"burin/api"
	"burin/ir"
)

// body is what is done in the place of a call.
type body struct {
	*api.Fn
	unset []int
}

// bodiesOf: by the functions' numbers their bodies, nil for those whose calls stay. As these functions call nobody they stay as they are.
func bodiesOf(fns []api.Fn) []*body {
	list := make([]*body, len(fns))
	for n := range fns {
		if f := &fns[n]; isSmall(f) {
			list[n] = &body{f, unset(f)}
		}
	}
	return list
}

// straight: is its first part its end? Then it needs no parts where the call stands.
func (b *body) straight() bool { return b.Parts[0].End }

// set is some registers of a small function, a bit each.
type set uint32

// unset: the registers, but for parameters, that may be read ahead of being written. They are 0 when a call begins; and where it stands in a loop it begins again.
func unset(f *api.Fn) []int {
	begins := make([]set, len(f.Parts)) // what is read from the beginning of each part on, ahead of being written
	for changed := true; changed; {
		changed = false
		for n := range f.Parts {
			if now := readFrom(&f.Parts[n], begins); now != begins[n] {
				begins[n], changed = now, true
			}
		}
	}
	var list []int
	for r := f.Params; r < f.Regs; r++ {
		if begins[0]&(1<<r) != 0 {
			list = append(list, r)
		}
	}
	return list
}

// readFrom: what is read from the beginning of a part on, as far as it is known of those at which it goes on.
func readFrom(p *api.Part, begins []set) set {
	var now set
	if !p.End {
		now |= begins[p.Next]
	}
	if !p.End && p.Cond >= 0 {
		now |= begins[p.Else]
	}
	if p.Cond >= 0 {
		now |= 1 << p.Cond
	}
	for _, i := range slices.Backward(p.Insts) {
		if ir.Dst(i) {
			now &^= 1 << i.Dst
		}
		for _, r := range ir.Uses(i) {
			now |= 1 << r
		}
	}
	return now
}

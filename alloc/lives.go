package alloc

import (
	"slices"

	"burin/api"
	"burin/ir"
	"burin/live"
)

// life is from where to where a register may hold something. The points of a function are numbered from 1 on, through all parts: one at the beginning of each part, one behind each instruction. Registers that meet do so at a point that is in both lives.
type life struct {
	register int
	first    int
	last     int // 0: it never holds anything
}

// reach: it holds something at a point.
func (l *life) reach(point int) {
	if l.last == 0 {
		l.first = point
	}
	l.first, l.last = min(l.first, point), max(l.last, point)
}

// livesOf: the lives of those registers that ever hold something.
func livesOf(f *api.Fn, in, out []live.Set) []life {
	lives := make([]life, f.Regs)
	for r := range lives {
		lives[r].register = r
	}
	begin := 1
	for r := range f.Params {
		lives[r].reach(begin)
	}
	for n := range f.Parts {
		p := &f.Parts[n]
		end := begin + len(p.Insts)
		for _, r := range in[n].List() {
			lives[r].reach(begin)
		}
		touch(lives, p, begin)
		for _, r := range out[n].List() {
			lives[r].reach(end)
		}
		begin = end + 1
	}
	return slices.DeleteFunc(lives, func(l life) bool { return l.last == 0 })
}

// touch: the registers hold something where a part needs them; what an instruction reads, ahead of it; what it writes, behind it, also if nobody reads that.
func touch(lives []life, p *api.Part, point int) {
	for _, i := range p.Insts {
		for _, r := range ir.Uses(i) {
			lives[r].reach(point)
		}
		point++
		if ir.Dst(i) {
			lives[i.Dst].reach(point)
		}
	}
	if p.Cond >= 0 {
		lives[p.Cond].reach(point)
	}
}

package dead

import (
	"burin/api"
)

// ways are those through a function, and what was found on them when a register was looked at last. What was found is the number of that look: so nothing needs to be forgotten.
type ways struct {
	from   [][]int // of each part those that may go on at it
	looks  int
	begins []int // the register is live when the part begins
	ends   []int // it is live behind the part's end
	writes []int // the part writes it
	work   []int // parts at whose beginning it is live, but those that go on at them weren't told
}

func newWays(f api.Fn) ways {
	many := len(f.Parts)
	w := ways{from: make([][]int, many), begins: make([]int, many), ends: make([]int, many), writes: make([]int, many)}
	for n, p := range f.Parts {
		if p.End {
			continue
		}
		w.from[p.Next] = append(w.from[p.Next], n)
		if p.Cond >= 0 {
			w.from[p.Else] = append(w.from[p.Else], n)
		}
	}
	return w
}

// look finds anew behind which parts a register is live. A write that was left out counts still: nothing behind it reads the register, or it wouldn't have been.
func (s *sweep) look(number int) {
	r, w := s.registers[number], &s.ways
	r.waits = false
	w.looks++
	for _, n := range r.goes {
		if v := &s.values[n]; v.writer != none {
			w.writes[v.part] = w.looks
		}
	}
	for _, n := range r.comes {
		v := &s.values[n]
		if s.drop(v); len(v.readers) > 0 {
			w.begin(v.part)
		}
	}
	w.back()
	for _, n := range r.goes {
		if v := &s.values[n]; v.behind && w.ends[v.part] != w.looks {
			v.behind = false
			s.todo = append(s.todo, n)
		}
	}
}

// begin: the register is live when a part begins.
func (w *ways) begin(part int) {
	if w.begins[part] != w.looks {
		w.begins[part] = w.looks
		w.work = append(w.work, part)
	}
}

// back goes the ways back from where the register is live, until it is written.
func (w *ways) back() {
	for {
		part, ok := pop(&w.work)
		if !ok {
			return
		}
		for _, before := range w.from[part] {
			w.ends[before] = w.looks
			if w.writes[before] != w.looks {
				w.begin(before)
			}
		}
	}
}

package dead

import (
	"burin/api"
	"burin/ir"
)

// none stands where nobody in its part has written a value: it was there when the part began.
const none = -1

// value is what a register holds in a part, until it is written again or the part ends.
type value struct {
	part     int
	register int
	writer   int   // the place that has written it, or none
	readers  []int // the places that read it, rising
	behind   bool  // it is there at the part's end, and live behind it
}

// register is in which parts a register is touched, by its values there.
type register struct {
	comes []int // those with which it comes to a part that reads them
	goes  []int // those that it holds at the end of a part that reads or writes it
	waits bool  // it is to be looked at again
}

// newSweep takes all that is there at a part's end for live: what isn't is found by looking at each register once.
func newSweep(f api.Fn, fault bool) *sweep {
	s := &sweep{fault: fault, registers: map[int]*register{}, ways: newWays(f)}
	for n := range f.Parts {
		s.part(n, &f.Parts[n])
	}
	for n := range s.values {
		s.todo = append(s.todo, n)
		s.lookAgain(s.values[n].register)
	}
	return s
}

func (s *sweep) part(part int, p *api.Part) {
	now := map[int]int{} // the values that the registers hold
	for k := range p.Insts {
		i := &p.Insts[k]
		s.places = append(s.places, place{inst: i})
		for _, number := range ir.Uses(*i) {
			s.read(part, number, now)
		}
		if ir.Dst(*i) {
			now[i.Dst] = s.value(part, i.Dst, len(s.places)-1)
		}
	}
	s.places = append(s.places, place{})
	if p.Cond >= 0 {
		s.read(part, p.Cond, now)
	}
	for number, n := range now {
		s.values[n].behind = true
		r := s.register(number)
		r.goes = append(r.goes, n)
	}
}

// read: the last place reads a register.
func (s *sweep) read(part, number int, now map[int]int) {
	n, ok := now[number]
	if !ok {
		n = s.value(part, number, none)
		now[number] = n
		r := s.register(number)
		r.comes = append(r.comes, n)
	}
	at := len(s.places) - 1
	s.places[at].read = append(s.places[at].read, n)
	s.values[n].readers = append(s.values[n].readers, at)
}

func (s *sweep) value(part, number, writer int) int {
	s.values = append(s.values, value{part: part, register: number, writer: writer})
	return len(s.values) - 1
}

func (s *sweep) register(number int) *register {
	r := s.registers[number]
	if r == nil {
		r = &register{}
		s.registers[number] = r
	}
	return r
}

func (s *sweep) lookAgain(number int) {
	if r := s.registers[number]; !r.waits {
		r.waits = true
		s.again = append(s.again, number)
	}
}

package live

import (
	"math/bits"
	"slices"
)

// Set is some registers.
type Set struct {
	words []word // rising, none of them empty; nil, if there is none: so two Sets of the same registers are alike
}

// word is some of 64 registers that stand side by side.
type word struct {
	at   int // which 64; in lists of a walk, which part reads or writes them
	bits uint64
}

// place, bit: where a register stands.
func place(r int) int  { return r >> 6 }
func bit(r int) uint64 { return 1 << (r & 63) }

// Has: is a register one of them?
func (s Set) Has(r int) bool {
	n, found := s.find(r)
	return found && s.words[n].bits&bit(r) != 0
}

// List: they, rising.
func (s Set) List() []int {
	many := 0
	for _, w := range s.words {
		many += bits.OnesCount64(w.bits)
	}
	list := make([]int, 0, many)
	for _, w := range s.words {
		for rest := w.bits; rest != 0; rest &= rest - 1 {
			list = append(list, w.at<<6+bits.TrailingZeros64(rest))
		}
	}
	return list
}

// find: where a register's word stands, or would stand.
func (s Set) find(r int) (int, bool) {
	return slices.BinarySearchFunc(s.words, place(r), func(w word, at int) int { return w.at - at })
}

func (s Set) clone() Set {
	return Set{append([]word(nil), s.words...)}
}

func (s *Set) add(r int) {
	n, found := s.find(r)
	if !found {
		s.words = slices.Insert(s.words, n, word{at: place(r)})
	}
	s.words[n].bits |= bit(r)
}

func (s *Set) remove(r int) {
	n, found := s.find(r)
	if !found {
		return
	}
	if s.words[n].bits &^= bit(r); s.words[n].bits == 0 {
		s.words = slices.Delete(s.words, n, n+1)
	}
}

// last: the bits of the last word, if it stands at that place.
func last(words []word, at int) uint64 {
	if n := len(words); n > 0 && words[n-1].at == at {
		return words[n-1].bits
	}
	return 0
}

// push adds bits to the last word, or a word behind it: are some of them new?
func push(words *[]word, w word) bool {
	had := last(*words, w.at)
	if had == 0 {
		*words = append(*words, w)
		return true
	}
	(*words)[len(*words)-1].bits |= w.bits
	return w.bits&^had != 0
}

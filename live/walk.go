package live

import (
	"burin/api"
	"burin/ir"
)

// walk goes through the parts of a function back from where registers are read, those of one word after those of the other: so it looks at no more parts than there is something to tell of.
type walk struct {
	from   [][]int  // of each part those that may go on at it
	reads  [][]word // of each word of registers the parts that read some of them ahead of writing them, rising, and which
	writes [][]word // of each word of registers the parts that write some of them
	in     []Set
	out    []Set
	wrote  []uint64 // of each part those of the word's registers that it writes
	work   []int    // parts at whose beginning more is live than was told to those that go on at them
}

func newWalk(f api.Fn) *walk {
	many, words := len(f.Parts), place(f.Regs)+1
	w := &walk{
		from:   make([][]int, many),
		reads:  make([][]word, words),
		writes: make([][]word, words),
		in:     make([]Set, many),
		out:    make([]Set, many),
		wrote:  make([]uint64, many),
	}
	for n, p := range f.Parts {
		for _, next := range ways(p) {
			w.from[next] = append(w.from[next], n)
		}
		w.look(n, p)
	}
	return w
}

// ways: the parts at which a part may go on.
func ways(p api.Part) []int {
	switch {
	case p.End:
		return nil
	case p.Cond < 0:
		return []int{p.Next}
	}
	return []int{p.Next, p.Else}
}

// look notes what a part reads and writes.
func (w *walk) look(part int, p api.Part) {
	for _, i := range p.Insts {
		for _, register := range ir.Uses(i) {
			w.read(part, register)
		}
		if ir.Dst(i) {
			push(&w.writes[place(i.Dst)], word{part, bit(i.Dst)})
		}
	}
	if p.Cond >= 0 {
		w.read(part, p.Cond)
	}
}

func (w *walk) read(part, register int) {
	at := place(register)
	if last(w.writes[at], part)&bit(register) == 0 {
		push(&w.reads[at], word{part, bit(register)})
	}
}

// back finds all parts at whose beginning, and behind whose end, the registers of a word are live.
func (w *walk) back(at int) {
	for _, some := range w.writes[at] {
		w.wrote[some.at] = some.bits
	}
	for _, some := range w.reads[at] {
		w.begin(some.at, word{at, some.bits})
	}
	for len(w.work) > 0 {
		top := len(w.work) - 1
		part := w.work[top]
		w.work = w.work[:top]
		for _, before := range w.from[part] {
			w.end(before, word{at, last(w.in[part].words, at)})
		}
	}
	for _, some := range w.writes[at] {
		w.wrote[some.at] = 0
	}
}

// begin: some registers are live at a part's beginning.
func (w *walk) begin(part int, some word) {
	if push(&w.in[part].words, some) {
		w.work = append(w.work, part)
	}
}

// end: some registers are live behind a part's end; those that it doesn't write at its beginning, too.
func (w *walk) end(part int, some word) {
	if !push(&w.out[part].words, some) {
		return
	}
	if some.bits &^= w.wrote[part]; some.bits != 0 {
		w.begin(part, some)
	}
}

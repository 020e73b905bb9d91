package flow

import (
	"burin/api"
	"burin/ir"
)

// joiner puts parts behind the only one that leads to them.
type joiner struct {
	parts []api.Part
	ways  []int         // how many lead to each part from those that are reached; the first one has one more
	known map[int]int64 // the numbers of the registers that were last written by an IConst, in the part that is being put together
}

func join(parts []api.Part, first int) {
	j := joiner{parts: parts, ways: countWays(parts, first)}
	behind := make([]bool, len(parts))
	for n := range parts {
		if next, ok := j.alone(n); ok {
			behind[next] = true
		}
	}
	// From where a row begins: so what stands at its end is moved once.
	for n := range parts {
		if !behind[n] {
			j.lengthen(n)
		}
	}
}

func countWays(parts []api.Part, first int) []int {
	many := make([]int, len(parts))
	many[first] = 1
	for n, ok := range reached(parts, first) {
		if !ok {
			continue
		}
		for _, next := range ways(&parts[n]) {
			many[next]++
		}
	}
	return many
}

// alone: the part to which a part leads, if neither of them has another way. A part to which no way is left leads nowhere.
func (j *joiner) alone(n int) (int, bool) {
	p := &j.parts[n]
	if !onlyGoesOn(p) || p.Next == n || j.ways[n] == 0 || j.ways[p.Next] != 1 {
		return 0, false
	}
	return p.Next, true
}

// lengthen puts behind a part what follows it alone.
func (j *joiner) lengthen(n int) {
	next, ok := j.alone(n)
	if !ok {
		return
	}
	j.known = map[int]int64{}
	j.learn(j.parts[n].Insts)
	for ; ok; next, ok = j.alone(n) {
		j.put(next, &j.parts[n])
	}
}

// put puts a part behind another one. Its branch may come to be known by what stands ahead of it then.
func (j *joiner) put(n int, p *api.Part) {
	q := &j.parts[n]
	j.learn(q.Insts)
	p.Insts = append(p.Insts, q.Insts...)
	p.End, p.Cond, p.Next, p.Else = q.End, q.Cond, q.Next, q.Else
	j.ways[n] = 0
	if v, ok := j.known[p.Cond]; ok && branches(p) {
		gone := way(p, v == 0)
		goOn(p, way(p, v != 0))
		j.lose(gone)
	}
}

func (j *joiner) learn(insts []api.Inst) {
	for _, i := range insts {
		if !ir.Dst(i) {
			continue
		}
		if i.Op == api.IConst {
			j.known[i.Dst] = i.Imm
		} else {
			delete(j.known, i.Dst)
		}
	}
}

// lose: a way to a part is gone. A part to which none leads any more has no ways either.
func (j *joiner) lose(n int) {
	work := []int{n}
	for len(work) > 0 {
		n, work = work[len(work)-1], work[:len(work)-1]
		if j.ways[n]--; j.ways[n] == 0 {
			work = append(work, ways(&j.parts[n])...)
		}
	}
}

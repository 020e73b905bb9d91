package gen

import (
	"burin/api"
	"burin/tree"
)

const (
	leastStat     = 4 // nodes and steps for which a statement is made
	leastBlock    = 8 // for one with Blocks
	leastArgument = 3 // for a kid of a Call: a Ref, an Index, its number
)

// statements: those of a Block, and how many steps they take at most.
func (m *maker) statements(r room, nest int) ([]api.Node, int) {
	var list []api.Node
	took := 0
	for len(list) < m.config.Stats && r.least() >= leastStat {
		n, steps := m.statement(r, nest)
		if steps == 0 {
			break
		}
		list = append(list, n)
		took += steps
		r.nodes -= tree.Size(n)
		r.steps -= steps
	}
	return list, took
}

// statement: one, and its steps; 0: the Block ends.
func (m *maker) statement(r room, nest int) (api.Node, int) {
	known := len(m.writable())
	callees := m.callees(r)
	blocks := one(r.least() >= leastBlock && nest < m.config.Depth)
	switch m.Pick([]int{2, 4 + 4*one(known < 4), 8 * one(known > 0), 3, 4 * blocks, 4 * blocks, 6 * one(len(callees) > 0), one(nest > 0)}) {
	case 1:
		return simple(m.let(r))
	case 2:
		return simple(m.set(r))
	case 3:
		return simple(m.print(r))
	case 4:
		return m.branch(room{r.nodes / 2, r.steps / 2}, nest)
	case 5:
		return m.loop(room{r.nodes / 2, r.steps / 2}, nest)
	case 6:
		return m.call(callees[m.Below(len(callees))], r)
	case 7:
		return simple(node(api.Ret, m.value(m.answer, r)))
	}
	return api.Node{}, 0
}

func one(holds bool) int {
	if holds {
		return 1
	}
	return 0
}

// simple: a statement that takes a step for each of its nodes at most.
func simple(n api.Node) (api.Node, int) { return n, tree.Size(n) }

// value: an expression of a type, for which one node is left out of the room.
func (m *maker) value(t byte, r room) api.Node {
	return m.expression(whole(t), m.config.Depth, min(longest, r.least()-1))
}

func (m *maker) print(r room) api.Node {
	return node(api.Print, m.value(m.usedInt(), r))
}

func (m *maker) let(r room) api.Node {
	n, v := m.declare(api.Let, m.hiding(variables))
	if n.Type.Kind == api.TInt && m.Below(4) > 0 {
		n.Kids = []api.Node{m.value(n.Type.Int, r)}
	}
	m.known = append(m.known, v)
	return n
}

func (m *maker) set(r room) api.Node {
	list := m.writable()
	s := list[m.Below(len(list))]
	to := m.place(s, m.config.Depth, r.least()/2)
	r.nodes -= tree.Size(to)
	r.steps -= tree.Size(to)
	return node(api.Set, to, m.value(s.holds.t, r))
}

func (m *maker) branch(r room, nest int) (api.Node, int) {
	n := node(api.If, m.expression(whole(m.usedInt()), m.config.Depth, max(1, min(longest, r.least()/3))))
	asked := tree.Size(n)
	left := room{r.nodes - asked, r.steps - asked}
	most := 0
	for blocks := 1 + m.Below(2); blocks > 0; blocks-- {
		block, steps := m.block(room{left.nodes / blocks, left.steps}, nest+1)
		n.Kids = append(n.Kids, block)
		left.nodes -= tree.Size(block)
		most = max(most, steps)
	}
	return n, asked + most
}

func (m *maker) block(r room, nest int) (block api.Node, steps int) {
	block.Kind = api.Block
	m.within(func() {
		block.Kids, steps = m.statements(room{r.nodes - 1, r.steps}, nest)
	})
	return block, steps
}

func (m *maker) loop(r room, nest int) (api.Node, int) {
	rounds := m.Below(1 + min(api.MaxLoop, (r.steps-1)/(1+leastStat)))
	first := m.first(rounds)
	n := api.Node{Kind: api.For, N: first, M: first + int64(rounds)}
	each := (r.steps-1)/max(rounds, 1) - 1
	took := 0
	m.within(func() {
		n.Name = m.hiding(loops)
		m.known = append(m.known, variable{name: n.Name, kind: integer(api.I32), loop: true, low: n.N, high: n.M - 1})
		block, steps := m.block(room{r.nodes - 1, each}, nest+1)
		n.Kids = []api.Node{block}
		took = rounds * (1 + steps)
	})
	return n, 1 + took
}

// first: the number of a loop's first round.
func (m *maker) first(rounds int) int64 {
	most := int(whole(api.I32).high) - rounds
	switch m.Pick([]int{6, 2, 1, 1}) {
	case 1:
		return int64(m.Below(10))
	case 2:
		return int64(m.Below(most + 1))
	case 3:
		return int64(most)
	}
	return 0
}

// callees: the functions ahead for which there is room, and whose refs can lead somewhere.
func (m *maker) callees(r room) []int {
	var list []int
	for i, f := range m.fns[:m.ahead] {
		if m.share(i, r) >= leastArgument && m.leads(f) {
			list = append(list, i)
		}
	}
	return list
}

// share: the nodes for each kid of a Call.
func (m *maker) share(i int, r room) int {
	return (min(r.nodes, r.steps-m.costs[i]) - 1) / (1 + paramsOf(m.fns[i]))
}

func (m *maker) call(i int, r room) (api.Node, int) {
	f, share := m.fns[i], min(m.share(i, r), longest)
	n := api.Node{Kind: api.Call, Name: f.Name}
	if list := m.writableOf(f.Type.Int); len(list) > 0 && m.Below(4) > 0 {
		n.N, n.Kids = 1, []api.Node{m.place(list[m.Below(len(list))], m.config.Depth, share)}
	}
	for _, p := range f.Kids[:paramsOf(f)] {
		n.Kids = append(n.Kids, m.argument(p, share))
	}
	return n, tree.Size(n) + m.costs[i]
}

// paramsOf: how many parameters a function has, of which the Block may be made or not.
func paramsOf(f api.Node) int {
	count := 0
	for _, n := range f.Kids {
		count += one(n.Kind == api.Param)
	}
	return count
}

// leads: is something known to which each parameter that is a ref can lead?
func (m *maker) leads(f api.Node) bool {
	for _, p := range f.Kids {
		if p.Type.Kind == api.TRef && len(m.writableOf(p.Type.Int)) == 0 {
			return false
		}
	}
	return true
}

func (m *maker) argument(p api.Node, nodes int) api.Node {
	if p.Type.Kind != api.TRef {
		return m.expression(whole(p.Type.Int), m.config.Depth, nodes)
	}
	list := m.writableOf(p.Type.Int)
	return node(api.Ref, m.place(list[m.Below(len(list))], m.config.Depth, nodes-1))
}

package gen

import (
	"strconv"

	"burin/api"
	"burin/tape"
	"burin/tree"
)

const (
	leastMain = 6    // nodes: a Func, its Block, a Print, a Ret, and what these tell
	leastBody = 3    // nodes: a Block, a Ret, and what it tells
	mainSteps = 5000 // of main's statements: fewer than may be, as a campaign runs a program many times
	endSteps  = 64   // of those at its end, and their nodes
	allCells  = 100  // of arrays and structs: of more the code of a program may be refused (P15.1)
	longest   = 30   // nodes of an expression
)

// The letters with which names begin; a number stands behind. (The words that have digits begin with others.)
const (
	structs   = "s"
	globals   = "g"
	functions = "f"
	params    = "p"
	variables = "v"
	loops     = "k"
)

// maker makes one program. It asks its tape for numbers alone, never how many draws are left: so it can't matter whether it draws a 0 or has none left.
// What stands first where something is drawn is the least, so that a program ends soon where the draws do.
type maker struct {
	*tape.Tape
	config  Config
	structs []api.Node
	fns     []api.Node
	costs   []int // the steps that each function may take
	ahead   int   // how many functions stand ahead of the one at hand
	answer  byte  // the type of what it answers
	known   []variable
	inner   int // the place in known from which on the innermost scope's variables stand
	names   int
	cells   int
}

// room is how much may be made: nodes, and the steps that they take.
type room struct {
	nodes int
	steps int
}

// least: an expression, or a statement without others in it, takes no more steps than it has nodes.
func (r room) least() int { return min(r.nodes, r.steps) }

// program: what main calls is declared first, but made behind main, so that few draws make a main that does something.
func (m *maker) program() api.Node {
	spare := m.config.Size - 1 - leastMain
	m.declareStructs(spare / 8)
	head := append(m.structs, m.declareGlobals(spare/8)...)
	spare -= sizeOf(head)
	m.declareFns(spare / 3)
	spare -= sizeOf(m.fns) + leastBody*len(m.fns)

	share := spare
	if len(m.fns) > 0 {
		share = spare * 2 / 3
	}
	last := mainOf(m.mainBlock(leastMain - 1 + share))
	spare -= tree.Size(last) - leastMain
	for i := range m.fns {
		share = spare / (len(m.fns) - i)
		block := m.fnBlock(i, leastBody+share)
		m.fns[i].Kids = append(m.fns[i].Kids, block)
		spare -= tree.Size(block) - leastBody
	}
	return node(api.Prog, append(append(head, m.fns...), last)...)
}

// name that no other thing has.
func (m *maker) name(prefix string) string {
	m.names++
	return prefix + strconv.Itoa(m.names)
}

// anyInt: one of the six types.
func (m *maker) anyInt() byte { return byte(m.Below(6)) }

func (m *maker) declareStructs(nodes int) {
	for range m.Below(3) {
		fields := min(1+m.Pick([]int{4, 4, 3, 2, 1, 1, 1, 1}), nodes-1)
		if fields < 1 {
			break
		}
		s := api.Node{Kind: api.Struct, Name: m.name(structs)}
		for i := range fields {
			s.Kids = append(s.Kids, api.Node{Kind: api.Field, Name: string(rune('a' + i)), Type: integer(m.anyInt())})
		}
		m.structs = append(m.structs, s)
		nodes -= tree.Size(s)
	}
}

func (m *maker) declareGlobals(nodes int) []api.Node {
	var list []api.Node
	for range m.Below(6) {
		if nodes < 2 {
			break
		}
		n, v := m.declare(api.Global, m.name(globals))
		if n.Type.Kind == api.TInt && m.Below(4) > 0 {
			n.Kids = []api.Node{m.literal(whole(n.Type.Int))}
		}
		m.known = append(m.known, v)
		list = append(list, n)
		nodes -= tree.Size(n)
	}
	return list
}

// declare: a Global or a Let without its first number.
func (m *maker) declare(kind byte, name string) (api.Node, variable) {
	n := api.Node{Kind: kind, Name: name, Type: integer(m.usedInt())}
	var fields []api.Node
	switch m.Pick([]int{6, 3, 2 * min(len(m.structs), 1)}) {
	case 1:
		if left := allCells - m.cells; left > 0 {
			n.Type.Kind, n.Type.N = api.TArray, 1+m.Below(min(api.MaxArray, left))
			m.cells += n.Type.N
		}
	case 2:
		if s := m.structs[m.Below(len(m.structs))]; len(s.Kids) <= allCells-m.cells {
			n.Type, n.Field, fields = api.Type{Kind: api.TStruct}, s.Name, s.Kids
			m.cells += len(fields)
		}
	}
	return n, variable{name: name, kind: n.Type, fields: fields}
}

// declareFns: functions without their Blocks, for the least of which there is room behind.
func (m *maker) declareFns(nodes int) {
	for range m.Below(m.config.Funcs + 1) {
		count := min(m.Pick([]int{2, 3, 4, 2, 1, 1, 1}), nodes-1-leastBody)
		if count < 0 {
			break
		}
		f := api.Node{Kind: api.Func, Name: m.name(functions), Type: integer(m.usedInt())}
		m.within(func() {
			for range count {
				p := api.Node{Kind: api.Param, Name: m.hiding(params), Type: integer(m.usedInt())}
				if m.Below(3) == 2 {
					p.Type.Kind = api.TRef
				}
				f.Kids = append(f.Kids, p)
				m.known = append(m.known, variable{name: p.Name, kind: p.Type})
			}
		})
		m.fns = append(m.fns, f)
		m.costs = append(m.costs, []int{1 + longest, 2 * longest, 10 * longest}[m.Pick([]int{1, 2, 2})])
		nodes -= tree.Size(f) + leastBody
	}
}

// mainBlock: statements, then a Print of what they left behind.
func (m *maker) mainBlock(nodes int) api.Node {
	m.ahead, m.answer = len(m.fns), api.I32
	return m.body(room{nodes, mainSteps}, leastMain-2, func(left int) []api.Node {
		left = min(left, endSteps)
		told := node(api.Print, m.digest(m.start(m.sources()), m.config.Depth, left-3))
		return []api.Node{told, node(api.Ret, m.expression(whole(m.answer), m.config.Depth, min(longest, left-tree.Size(told)-1)))}
	})
}

func (m *maker) fnBlock(i, nodes int) (block api.Node) {
	f := m.fns[i]
	m.ahead, m.answer = i, f.Type.Int
	m.within(func() {
		for _, p := range f.Kids {
			m.known = append(m.known, variable{name: p.Name, kind: p.Type})
		}
		block = m.body(room{nodes, m.costs[i] - 1 - longest}, leastBody-1, func(left int) []api.Node {
			return []api.Node{node(api.Ret, m.told(min(left-1, longest)))}
		})
	})
	return block
}

// told: what a function answers; where the draws are used up, something of what it was given.
func (m *maker) told(nodes int) api.Node {
	if depth := m.config.Depth; depth > 1 && nodes > 1 && m.Below(2) == 0 {
		return castTo(m.answer, m.digest(m.sources(), depth-1, nodes-1))
	}
	return m.expression(whole(m.answer), m.config.Depth, nodes)
}

// body: a function's Block, with the statements at its end, which have so many nodes at least; their steps are not among those of the room.
func (m *maker) body(r room, least int, end func(nodes int) []api.Node) api.Node {
	block := api.Node{Kind: api.Block}
	left := r.nodes - 1
	m.within(func() {
		spare := left - least
		block.Kids, _ = m.statements(room{spare - spare/4, r.steps}, 0)
		block.Kids = append(block.Kids, end(left-sizeOf(block.Kids))...)
	})
	return block
}

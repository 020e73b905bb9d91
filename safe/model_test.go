package safe

import (
	"slices"
	"testing"

	"burin/api"
	"burin/show"
	"burin/span"
	"burin/types"
)

// model tells a second time what a program that is right is worth: by the names of its variables; steps and spans are reckoned for each node anew, from the node alone, and without a bound; the nodes are gone through behind that.
type model struct {
	items []api.Node
	next  int
	first *fact
}

// fact: something that is broken.
type fact struct {
	at int
	e  api.Errno
}

// thing is a variable, with those that it hides; its node is what declares it.
type thing struct {
	node *api.Node
	more *thing
}

// above any count of steps that can be told, and far below what an int holds.
const beyond = 1 << 30

func (m *model) item(kind byte, name string) *api.Node {
	i := slices.IndexFunc(m.items, func(n api.Node) bool { return n.Kind == kind && n.Name == name })
	return &m.items[i]
}

func body(f *api.Node) *api.Node { return &f.Kids[len(f.Kids)-1] }

func find(v *thing, name string) *api.Node {
	for v.node.Name != name {
		v = v.more
	}
	return v.node
}

// cost: the steps of a Block, a statement, a Ref, a variable or an expression.
func (m *model) cost(n *api.Node) int {
	list := make([]int, len(n.Kids))
	sum := 0
	for i := range n.Kids {
		if n.Kind == api.For && n.N >= n.M {
			return 1
		}
		list[i] = m.cost(&n.Kids[i])
		sum += list[i]
	}
	switch n.Kind {
	case api.Block, api.Ref:
		return min(sum, beyond)
	case api.If, api.Cond:
		return min(1+list[0]+slices.Max(list[1:]), beyond)
	case api.For:
		return min(1+int(n.M-n.N)+int(n.M-n.N)*sum, beyond)
	case api.Call:
		return min(1+sum+m.cost(body(m.item(api.Func, n.Name))), beyond)
	}
	return min(1+sum, beyond)
}

// typeOf: the type of an expression.
func (m *model) typeOf(n *api.Node, known *thing) byte {
	switch n.Kind {
	case api.Lit, api.Cast:
		return n.Type.Int
	case api.Cond:
		return m.typeOf(&n.Kids[1], known)
	case api.Unary:
		if n.Op == api.Bang {
			return api.I32
		}
		return m.typeOf(&n.Kids[0], known)
	case api.Binary:
		if n.Op >= api.Lt {
			return api.I32
		}
		return m.typeOf(&n.Kids[0], known)
	case api.Member:
		s := m.item(api.Struct, find(known, n.Name).Field)
		return s.Kids[slices.IndexFunc(s.Kids, func(f api.Node) bool { return f.Name == n.Field })].Type.Int
	}
	if v := find(known, n.Name); v.Kind != api.For {
		return v.Type.Int
	}
	return api.I32
}

// spanOf: the span of an expression, and whether the rule at it, not those at its kids, holds.
func (m *model) spanOf(n *api.Node, known *thing) (api.Span, bool) {
	var list []api.Span
	for i := range n.Kids {
		s, _ := m.spanOf(&n.Kids[i], known)
		list = append(list, s)
	}
	switch n.Kind {
	case api.Lit:
		return api.Span{Low: n.N, High: n.N}, true
	case api.Cast:
		return span.Cast(n.Type.Int, list[0]), true
	case api.Cond:
		return span.Join(list[1], list[2]), true
	case api.Unary:
		return span.Un(n.Op, m.typeOf(&n.Kids[0], known), list[0])
	case api.Binary:
		if n.Op == api.LAnd || n.Op == api.LOr {
			return both(n.Op, list[0], list[1]), true
		}
		return span.Do(n.Op, m.typeOf(&n.Kids[0], known), list[0], list[1])
	case api.Index:
		most := int64(find(known, n.Name).Type.N) - 1
		return span.Full(m.typeOf(n, known)), list[0].Low >= 0 && list[0].High <= most
	case api.Var:
		if v := find(known, n.Name); v.Kind == api.For {
			return api.Span{Low: v.N, High: v.M - 1}, true
		}
	}
	return span.Full(m.typeOf(n, known)), true
}

// both: the span of LAnd and LOr, out of the truths that each kid's numbers may have.
func both(op byte, a, b api.Span) api.Span {
	s := api.Span{Low: 1, High: 0}
	for x := range int64(2) {
		for y := range int64(2) {
			if !may(a, x) || !may(b, y) {
				continue
			}
			if op == api.LAnd {
				s = span.Join(s, api.Span{Low: x & y, High: x & y})
			} else {
				s = span.Join(s, api.Span{Low: x | y, High: x | y})
			}
		}
	}
	return s
}

// may: is a number of a span 0 (truth 0), or not 0 (truth 1)?
func may(s api.Span, truth int64) bool {
	if truth == 0 {
		return s.Low <= 0 && s.High >= 0
	}
	return s.Low != 0 || s.High != 0
}

func (m *model) say(holds bool, at int, e api.Errno) {
	if !holds && m.first == nil {
		m.first = &fact{at, e}
	}
}

// visit goes through a node that stands in a function: its kids ahead of it. It answers what is known behind it.
func (m *model) visit(n *api.Node, known *thing) *thing {
	at := m.next
	m.next++
	switch n.Kind {
	case api.Block:
		inner, sum := known, 0
		for i := range n.Kids {
			inner = m.visit(&n.Kids[i], inner)
			sum += m.cost(&n.Kids[i])
			m.say(sum <= api.MaxSteps, at, api.ErrLimit)
		}
		return known
	case api.For:
		was := m.first
		m.visit(&n.Kids[0], &thing{n, known})
		if n.N == n.M {
			m.first = was
		}
	default:
		for i := range n.Kids {
			m.visit(&n.Kids[i], known)
		}
	}
	switch {
	case n.Kind <= api.Ret:
		m.say(m.cost(n) <= api.MaxSteps, at, api.ErrLimit)
	case n.Kind != api.Ref:
		_, holds := m.spanOf(n, known)
		m.say(holds, at, api.ErrUnsafe)
	}
	if n.Kind == api.Let {
		return &thing{n, known}
	}
	return known
}

// costs answers what Costs should, of a program that is right.
func (m *model) costs() ([]int, int, api.Errno) {
	m.next = 1
	var globals *thing
	var list []int
	for i := range m.items {
		n := &m.items[i]
		m.next += 1 + len(n.Kids) // a Block's own number is taken back below
		switch n.Kind {
		case api.Global:
			globals = &thing{n, globals}
		case api.Func:
			m.next--
			own := globals
			for j := range n.Kids[:len(n.Kids)-1] {
				own = &thing{&n.Kids[j], own}
			}
			m.visit(body(n), own)
			list = append(list, m.cost(body(n)))
		}
	}
	if m.first != nil {
		return nil, m.first.at, m.first.e
	}
	return list, 0, api.OK
}

// hold asks that Costs and Check answer what types says of a program, and of one that is right what the model does.
func hold(t *testing.T, n api.Node) ([]int, int, api.Errno) {
	t.Helper()
	at, e := types.Check(n)
	var list []int
	if e == api.OK {
		list, at, e = (&model{items: n.Kids}).costs()
	}
	answers(t, n, list, at, e)
	return list, at, e
}

// answers asks what both calls answer.
func answers(t *testing.T, n api.Node, list []int, at int, e api.Errno) {
	t.Helper()
	text := func() string {
		s, _ := show.Text(n)
		return s
	}
	got, gotAt, gotE := Costs(n)
	if !slices.Equal(got, list) || gotAt != at || gotE != e {
		t.Fatalf("Costs(%.3000s) = %v, %d, %d; want %v, %d, %d", text(), got, gotAt, gotE, list, at, e)
	}
	if e != api.OK && got != nil {
		t.Fatalf("Costs(%.3000s): a list beside %d", text(), gotE)
	}
	steps := 0
	if e == api.OK {
		steps = list[len(list)-1]
	}
	if k, gotAt, gotE := Check(n); k != steps || gotAt != at || gotE != e {
		t.Fatalf("Check(%.3000s) = %d, %d, %d; want %d, %d, %d", text(), k, gotAt, gotE, steps, at, e)
	}
}

package safe

import (
	"fmt"
	"math/rand"

	"burin/api"
	"burin/ints"
)

// maker makes programs that are right, and, but for what is made without care, safe as far as traps go.
type maker struct {
	*rand.Rand
	careless int  // in a thousand: places where nothing is done against a trap
	straight bool // without what a run may leave out: If, Cond, LAnd, LOr, Ret
	rounds   int  // of a loop, at most
	loops    int  // in a hundred statements
	known    []api.Node
	scope    int // the place in known from which on the innermost scope's stand
	fns      []api.Node
	count    int
}

func whole(t byte) api.Type { return api.Type{Int: t} }

func lit(t byte, v int64) api.Node { return api.Node{Kind: api.Lit, Type: whole(t), N: v} }

func binary(op byte, a, b api.Node) api.Node {
	return api.Node{Kind: api.Binary, Op: op, Kids: []api.Node{a, b}}
}

func unary(op byte, a api.Node) api.Node {
	return api.Node{Kind: api.Unary, Op: op, Kids: []api.Node{a}}
}

func cast(t byte, a api.Node) api.Node {
	return api.Node{Kind: api.Cast, Type: whole(t), Kids: []api.Node{a}}
}

// unsigned: the type of the same width, signed or not, that isn't.
func unsigned(t byte) byte { return t | 1 }

func (m *maker) one(percent int) bool { return m.Intn(100) < percent }

func (m *maker) lapse() bool { return m.Intn(1000) < m.careless }

func (m *maker) kind() byte { return byte(m.Intn(6)) }

func (m *maker) name() string {
	m.count++
	return fmt.Sprint("v", m.count)
}

// hiding: a name for a variable, at times that of one of the scopes about.
func (m *maker) hiding() string {
	if m.scope > 0 && m.one(30) {
		if name := m.known[m.Intn(m.scope)].Name; m.last(name) < m.scope {
			return name
		}
	}
	return m.name()
}

// last: the place in known of the variable for which a name stands.
func (m *maker) last(name string) int {
	place := len(m.known) - 1
	for m.known[place].Name != name {
		place--
	}
	return place
}

// within makes what stands in a scope of its own.
func (m *maker) within(make func()) {
	outer, begin := m.scope, len(m.known)
	m.scope = begin
	make()
	m.scope, m.known = outer, m.known[:begin]
}

func (m *maker) program() api.Node {
	pair := api.Node{Kind: api.Struct, Name: "s"}
	for range 1 + m.Intn(3) {
		pair.Kids = append(pair.Kids, api.Node{Kind: api.Field, Name: m.name(), Type: whole(m.kind())})
	}
	p := api.Node{Kind: api.Prog, Kids: []api.Node{pair}}
	for range m.Intn(5) {
		g := m.variable(api.Global, pair)
		if g.Type.Kind == api.TInt && m.one(70) {
			g.Kids = []api.Node{m.lit(g.Type.Int)}
		}
		p.Kids = append(p.Kids, g)
	}
	for range m.Intn(4) {
		p.Kids = append(p.Kids, m.fn(pair))
	}
	p.Kids = append(p.Kids, api.Node{Kind: api.Func, Name: "main", Type: whole(api.I32), Kids: []api.Node{m.block(pair, api.I32, 3, 12)}})
	return p
}

// variable declares one; a struct's fields are held beside the node that is answered.
func (m *maker) variable(kind byte, pair api.Node) api.Node {
	v := api.Node{Kind: kind, Name: m.hiding(), Type: whole(m.kind())}
	known := v
	switch m.Intn(4) {
	case 0:
		v.Type.Kind, v.Type.N = api.TArray, 1+m.Intn(4)
		if m.one(20) {
			v.Type.N = 1 + m.Intn(api.MaxArray)
		}
		known = v
	case 1:
		v.Type, v.Field = api.Type{Kind: api.TStruct}, pair.Name
		known = v
		known.Kids = pair.Kids
	}
	m.known = append(m.known, known)
	return v
}

func (m *maker) fn(pair api.Node) api.Node {
	f := api.Node{Kind: api.Func, Name: m.name(), Type: whole(m.kind())}
	m.within(func() {
		for range m.Intn(4) {
			p := api.Node{Kind: api.Param, Name: m.hiding(), Type: whole(m.kind())}
			if m.one(50) {
				p.Type.Kind = api.TRef
			}
			f.Kids = append(f.Kids, p)
			m.known = append(m.known, p)
		}
		f.Kids = append(f.Kids, m.block(pair, f.Type.Int, 2, 5))
	})
	m.fns = append(m.fns, f)
	return f
}

func (m *maker) block(pair api.Node, answer byte, depth, most int) api.Node {
	b := api.Node{Kind: api.Block}
	m.within(func() {
		for range m.Intn(most + 1) {
			b.Kids = append(b.Kids, m.stat(pair, answer, depth))
		}
	})
	return b
}

func (m *maker) stat(pair api.Node, answer byte, depth int) api.Node {
	if depth > 0 && m.one(m.loops) {
		return m.loop(pair, answer, depth)
	}
	switch m.Intn(12) {
	case 0, 1:
		return m.let(pair)
	case 2:
		if depth > 0 && !m.straight {
			n := api.Node{Kind: api.If, Kids: []api.Node{m.expr(m.kind(), 2), m.block(pair, answer, depth-1, 3)}}
			if m.one(50) {
				n.Kids = append(n.Kids, m.block(pair, answer, depth-1, 3))
			}
			return n
		}
	case 3, 4:
		if len(m.fns) > 0 {
			return m.call()
		}
	case 5:
		if m.one(30) && !m.straight {
			return api.Node{Kind: api.Ret, Kids: []api.Node{m.expr(answer, 2)}}
		}
	case 6, 7, 8:
		if to, t, ok := m.place(func(byte) bool { return true }, true, 1); ok {
			return api.Node{Kind: api.Set, Kids: []api.Node{to, m.expr(t, 3)}}
		}
	}
	return api.Node{Kind: api.Print, Kids: []api.Node{m.expr(m.kind(), 3)}}
}

func (m *maker) let(pair api.Node) api.Node {
	held := m.known
	n := m.variable(api.Let, pair)
	if n.Type.Kind == api.TInt && m.one(60) {
		now := m.known
		m.known = held
		n.Kids = []api.Node{m.expr(n.Type.Int, 3)}
		m.known = now
	}
	return n
}

func (m *maker) loop(pair api.Node, answer byte, depth int) api.Node {
	n := api.Node{Kind: api.For, N: int64(m.Intn(3))}
	n.M = n.N + int64(m.Intn(m.rounds+1))
	m.within(func() {
		n.Name = m.hiding()
		m.known = append(m.known, api.Node{Kind: api.For, Name: n.Name, Type: whole(api.I32), N: n.N, M: n.M})
		n.Kids = []api.Node{m.block(pair, answer, depth-1, 4)}
	})
	return n
}

func (m *maker) call() api.Node {
	f := m.fns[m.Intn(len(m.fns))]
	n := api.Node{Kind: api.Call, Name: f.Name}
	if m.one(60) {
		if to, _, ok := m.place(func(t byte) bool { return t == f.Type.Int }, true, 1); ok {
			n.N, n.Kids = 1, append(n.Kids, to)
		}
	}
	for _, p := range f.Kids[:len(f.Kids)-1] {
		if p.Type.Kind == api.TInt {
			n.Kids = append(n.Kids, m.expr(p.Type.Int, 2))
			continue
		}
		to, _, ok := m.place(func(t byte) bool { return t == p.Type.Int }, true, 1)
		if !ok {
			return api.Node{Kind: api.Print, Kids: []api.Node{m.lit(api.U8)}}
		}
		n.Kids = append(n.Kids, api.Node{Kind: api.Ref, Kids: []api.Node{to}})
	}
	return n
}

// place: a variable of a type that is wanted.
func (m *maker) place(want func(t byte) bool, write bool, depth int) (api.Node, byte, bool) {
	for range min(8, len(m.known)) {
		at := m.Intn(len(m.known))
		v := m.known[at]
		if write && v.Kind == api.For || m.last(v.Name) != at {
			continue
		}
		n := api.Node{Kind: api.Var, Name: v.Name}
		t := v.Type.Int
		switch v.Type.Kind {
		case api.TRef:
			n.Kind = api.Deref
		case api.TStruct:
			f := v.Kids[m.Intn(len(v.Kids))]
			n.Kind, n.Field, t = api.Member, f.Name, f.Type.Int
		case api.TArray:
			n.Kind = api.Index
		}
		if !want(t) {
			continue
		}
		if n.Kind == api.Index {
			n.Kids = []api.Node{m.index(int64(v.Type.N), depth)}
		}
		return n, t, true
	}
	return api.Node{}, 0, false
}

// index: a number below the length; a loop's variable, where there is one that fits.
func (m *maker) index(length int64, depth int) api.Node {
	if m.lapse() {
		return m.expr(m.kind(), depth-1)
	}
	for i := range m.known {
		if v := m.known[i]; v.Kind == api.For && m.last(v.Name) == i && v.M <= length && m.one(50) {
			return api.Node{Kind: api.Var, Name: v.Name}
		}
	}
	if m.one(30) {
		return lit(m.kind(), m.Int63n(length))
	}
	t := unsigned(m.kind())
	return binary(api.Rem, m.expr(t, depth-1), lit(t, length))
}

func (m *maker) lit(t byte) api.Node {
	s := ints.Span(t)
	if m.one(20) {
		return lit(t, []int64{s.Low, s.High, s.High - 1}[m.Intn(3)])
	}
	if m.one(30) {
		return lit(t, s.Low+m.Int63n(s.High-s.Low+1))
	}
	return lit(t, int64(m.Intn(4)))
}

func (m *maker) expr(t byte, depth int) api.Node {
	if depth <= 0 || m.one(25) {
		if n, _, ok := m.place(func(u byte) bool { return u == t }, false, depth); ok {
			return n
		}
		return m.lit(t)
	}
	switch m.Intn(9) {
	case 0:
		return m.single(t, depth)
	case 1:
		return cast(t, m.expr(m.kind(), depth-1))
	case 2:
		if !m.straight {
			return api.Node{Kind: api.Cond, Kids: []api.Node{m.expr(m.kind(), depth-1), m.expr(t, depth-1), m.expr(t, depth-1)}}
		}
	case 3:
		return m.shift(t, depth)
	case 4, 5, 6:
		if t == api.I32 {
			return m.truth(depth)
		}
	}
	return m.double(t, depth)
}

func (m *maker) single(t byte, depth int) api.Node {
	op := byte(1 + m.Intn(2))
	a := m.expr(t, depth-1)
	if op == api.Neg && ints.Signed(t) && !m.lapse() {
		return cast(t, unary(op, cast(unsigned(t), a)))
	}
	return unary(op, a)
}

// shift: the count is below the width; of a signed type a number that is shifted up is small.
func (m *maker) shift(t byte, depth int) api.Node {
	op := byte(9 + m.Intn(2))
	if m.lapse() {
		return binary(op, m.expr(t, depth-1), m.expr(m.kind(), depth-1))
	}
	u := unsigned(m.kind())
	most := ints.Width(t) - 1
	a := m.expr(t, depth-1)
	if op == api.Shl && ints.Signed(t) {
		a = binary(api.Rem, a, lit(t, 4))
		most -= 3
	}
	return binary(op, a, binary(api.Rem, m.expr(u, depth-1), lit(u, int64(most)+1)))
}

// double: sums of a signed type are made of small numbers, or as those of the unsigned one; divisors have no 0 and no -1.
func (m *maker) double(t byte, depth int) api.Node {
	op := byte(1 + m.Intn(8))
	a, b := m.expr(t, depth-1), m.expr(t, depth-1)
	if m.lapse() || op >= api.And {
		return binary(op, a, b)
	}
	if op >= api.Div {
		if ints.Signed(t) || m.one(50) {
			return binary(op, a, lit(t, int64(1+m.Intn(100))))
		}
		return binary(op, a, binary(api.Or, b, lit(t, 1)))
	}
	if !ints.Signed(t) {
		return binary(op, a, b)
	}
	if m.one(40) {
		return binary(op, binary(api.Rem, a, lit(t, 12)), binary(api.Rem, b, lit(t, 12)))
	}
	return cast(t, binary(op, cast(unsigned(t), a), cast(unsigned(t), b)))
}

func (m *maker) truth(depth int) api.Node {
	t := m.kind()
	switch m.Intn(4) {
	case 0:
		return unary(api.Bang, m.expr(t, depth-1))
	case 1:
		if !m.straight {
			return binary(byte(17+m.Intn(2)), m.expr(t, depth-1), m.expr(m.kind(), depth-1))
		}
	}
	return binary(byte(11+m.Intn(6)), m.expr(t, depth-1), m.expr(t, depth-1))
}

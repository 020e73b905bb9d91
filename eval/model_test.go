package eval

import (
	"fmt"
	"math/rand"
	"slices"
	"testing"

	"burin/api"
	"burin/ints"
	"burin/show"
	"burin/types"
)

// model runs a program a second way: by the names of its variables, with a map for each scope and cells that are pointers; each number is reckoned with its type; it never gives up by panic, and counts steps without a bound.
// How a run with fewer steps ends is read off marks: how long the trace was ahead of each step.
type model struct {
	items []api.Node
	marks []int
	trace []int64
}

type scope struct {
	about *scope
	of    map[string]*thing
}

// thing: the cells of a variable, their types, and the names of a struct's fields; of a ref the cell to which it leads.
type thing struct {
	cells  []*int64
	ints   []byte
	fields []string
}

// number of a type.
type number struct {
	v int64
	t byte
}

// ended: how a statement went: on, by a return, or by a trap.
type ended struct {
	answer *int64
	trap   api.Trap
}

func inside(about *scope) *scope { return &scope{about, map[string]*thing{}} }

func (s *scope) find(name string) *thing {
	for s.of[name] == nil {
		s = s.about
	}
	return s.of[name]
}

func modelOf(n api.Node) *model { return &model{items: n.Kids} }

// run answers the outcome with steps enough.
func (m *model) run() api.Outcome {
	globals := inside(nil)
	for i := range m.items {
		if n := &m.items[i]; n.Kind == api.Global {
			globals.of[n.Name] = m.fresh(n)
			if len(n.Kids) == 1 {
				*globals.of[n.Name].cells[0] = n.Kids[0].N
			}
		}
	}
	body := m.items[len(m.items)-1].Kids[0]
	end := m.block(&body, globals, globals)
	o := api.Outcome{Trap: end.trap, Halted: end.trap == api.NoTrap, Steps: len(m.marks), Trace: m.trace}
	if end.answer != nil {
		o.Exit = *end.answer
	}
	return o
}

// at answers the outcome with that many steps, of what run answered.
func (m *model) at(o api.Outcome, fuel int) api.Outcome {
	if fuel >= o.Steps {
		return o
	}
	return api.Outcome{Fuel: true, Steps: fuel, Trace: m.trace[:m.marks[fuel]]}
}

func (m *model) mark() { m.marks = append(m.marks, len(m.trace)) }

func (m *model) item(kind byte, name string) *api.Node {
	for i := range m.items {
		if m.items[i].Kind == kind && m.items[i].Name == name {
			return &m.items[i]
		}
	}
	return nil
}

// fresh: a new variable, all 0.
func (m *model) fresh(n *api.Node) *thing {
	v := &thing{}
	add := func(t byte, field string) {
		v.cells, v.ints, v.fields = append(v.cells, new(int64)), append(v.ints, t), append(v.fields, field)
	}
	switch n.Type.Kind {
	case api.TInt:
		add(n.Type.Int, "")
	case api.TArray:
		for range n.Type.N {
			add(n.Type.Int, "")
		}
	case api.TStruct:
		for _, f := range m.item(api.Struct, n.Field).Kids {
			add(f.Type.Int, f.Name)
		}
	}
	return v
}

func (m *model) block(n *api.Node, about, globals *scope) ended {
	s := inside(about)
	for i := range n.Kids {
		if end := m.stat(&n.Kids[i], s, globals); end != (ended{}) {
			return end
		}
	}
	return ended{}
}

func (m *model) stat(n *api.Node, s, globals *scope) ended {
	m.mark()
	switch n.Kind {
	case api.Let:
		return m.let(n, s)
	case api.Set:
		cell, _, trap := m.lead(&n.Kids[0], s)
		if trap != 0 {
			return ended{trap: trap}
		}
		v, trap := m.expr(&n.Kids[1], s)
		if trap == 0 {
			*cell = v.v
		}
		return ended{trap: trap}
	case api.If:
		v, trap := m.expr(&n.Kids[0], s)
		if trap != 0 {
			return ended{trap: trap}
		}
		if v.v != 0 {
			return m.block(&n.Kids[1], s, globals)
		}
		if len(n.Kids) > 2 {
			return m.block(&n.Kids[2], s, globals)
		}
		return ended{}
	case api.For:
		for i := n.N; i < n.M; i++ {
			m.mark()
			round := inside(s)
			round.of[n.Name] = &thing{cells: []*int64{&i}, ints: []byte{api.I32}}
			if end := m.block(&n.Kids[0], round, globals); end != (ended{}) {
				return end
			}
		}
		return ended{}
	case api.Call:
		return m.call(n, s, globals)
	}
	v, trap := m.expr(&n.Kids[0], s) // Print, Ret
	if trap != 0 {
		return ended{trap: trap}
	}
	if n.Kind == api.Ret {
		return ended{answer: &v.v}
	}
	m.trace = append(m.trace, v.v)
	return ended{}
}

func (m *model) let(n *api.Node, s *scope) ended {
	v := m.fresh(n)
	if len(n.Kids) == 1 {
		first, trap := m.expr(&n.Kids[0], s)
		if trap != 0 {
			return ended{trap: trap}
		}
		*v.cells[0] = first.v
	}
	s.of[n.Name] = v
	return ended{}
}

func (m *model) call(n *api.Node, s, globals *scope) ended {
	f := m.item(api.Func, n.Name)
	taker := new(int64)
	args := n.Kids
	if n.N == 1 {
		cell, _, trap := m.lead(&n.Kids[0], s)
		if trap != 0 {
			return ended{trap: trap}
		}
		taker, args = cell, args[1:]
	}
	own := inside(globals)
	for i := range args {
		cell, t, trap := m.argument(&args[i], s)
		if trap != 0 {
			return ended{trap: trap}
		}
		own.of[f.Kids[i].Name] = &thing{cells: []*int64{cell}, ints: []byte{t}}
	}
	end := m.block(&f.Kids[len(f.Kids)-1], own, globals)
	if end.trap != 0 {
		return end
	}
	if *taker = 0; end.answer != nil {
		*taker = *end.answer
	}
	return ended{}
}

func (m *model) argument(n *api.Node, s *scope) (*int64, byte, api.Trap) {
	if n.Kind == api.Ref {
		return m.lead(&n.Kids[0], s)
	}
	v, trap := m.expr(n, s)
	return &v.v, v.t, trap
}

// lead: the cell of a variable, and its type.
func (m *model) lead(n *api.Node, s *scope) (*int64, byte, api.Trap) {
	m.mark()
	v := s.find(n.Name)
	which := 0
	switch n.Kind {
	case api.Member:
		which = slices.Index(v.fields, n.Field)
	case api.Index:
		i, trap := m.expr(&n.Kids[0], s)
		if trap != 0 {
			return nil, 0, trap
		}
		if i.v < 0 || i.v > int64(len(v.cells))-1 {
			return nil, 0, api.TrapIndex
		}
		which = int(i.v)
	}
	return v.cells[which], v.ints[which], 0
}

func (m *model) expr(n *api.Node, s *scope) (number, api.Trap) {
	if n.Kind == api.Var || n.Kind == api.Index || n.Kind == api.Member || n.Kind == api.Deref {
		cell, t, trap := m.lead(n, s)
		if trap != 0 {
			return number{}, trap
		}
		return number{*cell, t}, 0
	}
	m.mark()
	if n.Kind == api.Lit {
		return number{n.N, n.Type.Int}, 0
	}
	a, trap := m.expr(&n.Kids[0], s)
	if trap != 0 {
		return number{}, trap
	}
	switch n.Kind {
	case api.Cast:
		return number{ints.Wrap(n.Type.Int, a.v), n.Type.Int}, 0
	case api.Unary:
		v, trap := ints.Un(n.Op, a.t, a.v)
		if n.Op == api.Bang {
			a.t = api.I32
		}
		return number{v, a.t}, trap
	case api.Cond:
		if a.v == 0 {
			return m.expr(&n.Kids[2], s)
		}
		return m.expr(&n.Kids[1], s)
	}
	return m.two(n, a, s)
}

func (m *model) two(n *api.Node, a number, s *scope) (number, api.Trap) {
	if n.Op == api.LAnd && a.v == 0 {
		return number{0, api.I32}, 0
	}
	if n.Op == api.LOr && a.v != 0 {
		return number{1, api.I32}, 0
	}
	b, trap := m.expr(&n.Kids[1], s)
	if trap != 0 {
		return number{}, trap
	}
	if n.Op == api.LAnd || n.Op == api.LOr {
		v, trap := ints.Do(api.Ne, b.t, b.v, 0)
		return number{v, api.I32}, trap
	}
	v, trap := ints.Do(n.Op, a.t, a.v, b.v)
	if n.Op >= api.Lt {
		a.t = api.I32
	}
	return number{v, a.t}, trap
}

// maker makes programs that are right, and of which most traps happen seldom.
type maker struct {
	*rand.Rand
	known []api.Node // variables, as they were declared; those of a struct with its fields as kids
	scope int        // the place in known from which on the innermost scope's stand
	fns   []api.Node
	loops int // about the statement at hand
	count int
}

func (m *maker) one(percent int) bool { return m.Intn(100) < percent }

func (m *maker) name() string {
	m.count++
	return fmt.Sprint("v", m.count)
}

// hiding: a name for a variable, at times that of one of the scopes about.
func (m *maker) hiding() string {
	if m.scope > 0 && m.one(30) {
		name := m.known[m.Intn(m.scope)].Name
		if m.last(name) < m.scope {
			return name
		}
	}
	return m.name()
}

// last: the place in known of the variable for which a name stands.
func (m *maker) last(name string) int {
	place := len(m.known) - 1
	for m.known[place].Name != name {
		place--
	}
	return place
}

// within makes what stands in a scope of its own.
func (m *maker) within(make func()) {
	outer, begin := m.scope, len(m.known)
	m.scope = begin
	make()
	m.scope, m.known = outer, m.known[:begin]
}

func (m *maker) kind() byte { return byte(m.Intn(6)) }

func (m *maker) program() api.Node {
	pair := api.Node{Kind: api.Struct, Name: "s"}
	for range 1 + m.Intn(3) {
		pair.Kids = append(pair.Kids, api.Node{Kind: api.Field, Name: m.name(), Type: whole(m.kind())})
	}
	p := api.Node{Kind: api.Prog, Kids: []api.Node{pair}}
	for range m.Intn(5) {
		g := m.variable(api.Global, pair)
		if g.Type.Kind == api.TInt && m.one(50) {
			g.Kids = []api.Node{m.lit(g.Type.Int)}
		}
		p.Kids = append(p.Kids, g)
	}
	for range m.Intn(4) {
		p.Kids = append(p.Kids, m.fn(pair))
	}
	p.Kids = append(p.Kids, api.Node{Kind: api.Func, Name: "main", Type: whole(api.I32), Kids: []api.Node{m.block(pair, api.I32, 3, 12)}})
	return p
}

// variable declares one; a struct's fields are held beside the node that is answered.
func (m *maker) variable(kind byte, pair api.Node) api.Node {
	v := api.Node{Kind: kind, Name: m.hiding(), Type: whole(m.kind())}
	known := v
	switch m.Intn(4) {
	case 0:
		v.Type.Kind, v.Type.N = api.TArray, 1+m.Intn(4)
		known = v
	case 1:
		v.Type, v.Field = api.Type{Kind: api.TStruct}, pair.Name
		known = v
		known.Kids = pair.Kids
	}
	m.known = append(m.known, known)
	return v
}

func (m *maker) fn(pair api.Node) api.Node {
	f := api.Node{Kind: api.Func, Name: m.name(), Type: whole(m.kind())}
	m.within(func() {
		for range m.Intn(4) {
			p := api.Node{Kind: api.Param, Name: m.hiding(), Type: whole(m.kind())}
			if m.one(50) {
				p.Type.Kind = api.TRef
			}
			f.Kids = append(f.Kids, p)
			m.known = append(m.known, p)
		}
		f.Kids = append(f.Kids, m.block(pair, f.Type.Int, 2, 5))
	})
	m.fns = append(m.fns, f)
	return f
}

func (m *maker) block(pair api.Node, answer byte, depth, most int) api.Node {
	b := api.Node{Kind: api.Block}
	m.within(func() {
		for range m.Intn(most + 1) {
			b.Kids = append(b.Kids, m.stat(pair, answer, depth))
		}
	})
	return b
}

func (m *maker) stat(pair api.Node, answer byte, depth int) api.Node {
	switch m.Intn(12) {
	case 0, 1:
		return m.let(pair)
	case 2:
		if depth > 0 {
			n := api.Node{Kind: api.If, Kids: []api.Node{m.expr(m.kind(), 2), m.block(pair, answer, depth-1, 3)}}
			if m.one(50) {
				n.Kids = append(n.Kids, m.block(pair, answer, depth-1, 3))
			}
			return n
		}
	case 3:
		if depth > 0 && m.loops < 3 {
			return m.loop(pair, answer, depth)
		}
	case 4, 5:
		if len(m.fns) > 0 {
			return m.call()
		}
	case 6:
		if m.one(30) {
			return api.Node{Kind: api.Ret, Kids: []api.Node{m.expr(answer, 2)}}
		}
	case 7, 8, 9:
		if to, t, ok := m.place(func(byte) bool { return true }, true, 1); ok {
			return api.Node{Kind: api.Set, Kids: []api.Node{to, m.expr(t, 3)}}
		}
	}
	return api.Node{Kind: api.Print, Kids: []api.Node{m.expr(m.kind(), 3)}}
}

func (m *maker) let(pair api.Node) api.Node {
	held := m.known
	n := m.variable(api.Let, pair)
	if n.Type.Kind == api.TInt && m.one(60) {
		now := m.known
		m.known = held
		n.Kids = []api.Node{m.expr(n.Type.Int, 3)}
		m.known = now
	}
	return n
}

func (m *maker) loop(pair api.Node, answer byte, depth int) api.Node {
	n := api.Node{Kind: api.For, N: int64(m.Intn(3))}
	n.M = n.N + int64(m.Intn(4))
	m.loops++
	m.within(func() {
		n.Name = m.hiding()
		m.known = append(m.known, api.Node{Kind: api.For, Name: n.Name, Type: whole(api.I32)})
		n.Kids = []api.Node{m.block(pair, answer, depth-1, 4)}
	})
	m.loops--
	return n
}

func (m *maker) call() api.Node {
	f := m.fns[m.Intn(len(m.fns))]
	n := api.Node{Kind: api.Call, Name: f.Name}
	if m.one(60) {
		if to, _, ok := m.place(func(t byte) bool { return t == f.Type.Int }, true, 1); ok {
			n.N, n.Kids = 1, append(n.Kids, to)
		}
	}
	for _, p := range f.Kids[:len(f.Kids)-1] {
		if p.Type.Kind == api.TInt {
			n.Kids = append(n.Kids, m.expr(p.Type.Int, 2))
			continue
		}
		to, _, ok := m.place(func(t byte) bool { return t == p.Type.Int }, true, 1)
		if !ok {
			return api.Node{Kind: api.Print, Kids: []api.Node{m.lit(api.U8)}}
		}
		n.Kids = append(n.Kids, api.Node{Kind: api.Ref, Kids: []api.Node{to}})
	}
	return n
}

// place: a variable of a type that is wanted.
func (m *maker) place(want func(t byte) bool, write bool, depth int) (api.Node, byte, bool) {
	for range 8 {
		if len(m.known) == 0 {
			break
		}
		at := m.Intn(len(m.known))
		v := m.known[at]
		if write && v.Kind == api.For || m.last(v.Name) != at {
			continue
		}
		n := api.Node{Kind: api.Var, Name: v.Name}
		t := v.Type.Int
		switch v.Type.Kind {
		case api.TRef:
			n.Kind = api.Deref
		case api.TStruct:
			f := v.Kids[m.Intn(len(v.Kids))]
			n.Kind, n.Field, t = api.Member, f.Name, f.Type.Int
		case api.TArray:
			n.Kind = api.Index
		}
		if !want(t) {
			continue
		}
		if n.Kind == api.Index {
			n.Kids = []api.Node{m.index(v.Type.N, depth)}
		}
		return n, t, true
	}
	return api.Node{}, 0, false
}

func (m *maker) index(length, depth int) api.Node {
	if m.one(85) {
		return lit(m.kind(), int64(m.Intn(length)))
	}
	return m.expr(m.kind(), depth-1)
}

func (m *maker) lit(t byte) api.Node {
	if m.one(4) {
		s := ints.Span(t)
		return lit(t, []int64{s.Low, s.High, s.High - 1}[m.Intn(3)])
	}
	return lit(t, int64(m.Intn(4)))
}

func (m *maker) expr(t byte, depth int) api.Node {
	if depth <= 0 || m.one(25) {
		if n, _, ok := m.place(func(u byte) bool { return u == t }, false, depth); ok {
			return n
		}
		return m.lit(t)
	}
	switch m.Intn(9) {
	case 0:
		return api.Node{Kind: api.Unary, Op: byte(1 + m.Intn(2)), Kids: []api.Node{m.expr(t, depth-1)}}
	case 1:
		return api.Node{Kind: api.Cast, Type: whole(t), Kids: []api.Node{m.expr(m.kind(), depth-1)}}
	case 2:
		return api.Node{Kind: api.Cond, Kids: []api.Node{m.expr(m.kind(), depth-1), m.expr(t, depth-1), m.expr(t, depth-1)}}
	case 3:
		count := m.expr(m.kind(), depth-1)
		if m.one(80) {
			count = lit(m.kind(), int64(m.Intn(ints.Width(t))))
		}
		return binary(byte(9+m.Intn(2)), m.expr(t, depth-1), count)
	case 4, 5, 6:
		if t == api.I32 {
			return m.truth(depth)
		}
	}
	op := byte(1 + m.Intn(8))
	second := m.expr(t, depth-1)
	if (op == api.Div || op == api.Rem) && m.one(90) {
		second = lit(t, int64(1+m.Intn(100)))
	}
	return binary(op, m.expr(t, depth-1), second)
}

func (m *maker) truth(depth int) api.Node {
	t := m.kind()
	switch m.Intn(4) {
	case 0:
		return api.Node{Kind: api.Unary, Op: api.Bang, Kids: []api.Node{m.expr(t, depth-1)}}
	case 1:
		return binary(byte(17+m.Intn(2)), m.expr(t, depth-1), m.expr(m.kind(), depth-1))
	}
	return binary(byte(11+m.Intn(6)), m.expr(t, depth-1), m.expr(t, depth-1))
}

func whole(t byte) api.Type { return api.Type{Int: t} }

func lit(t byte, v int64) api.Node { return api.Node{Kind: api.Lit, Type: whole(t), N: v} }

func binary(op byte, a, b api.Node) api.Node {
	return api.Node{Kind: api.Binary, Op: op, Kids: []api.Node{a, b}}
}

// same: do two outcomes tell the same?
func same(a, b api.Outcome) bool {
	return a.Halted == b.Halted && a.Exit == b.Exit && a.Trap == b.Trap && a.Fuel == b.Fuel && a.Steps == b.Steps && slices.Equal(a.Trace, b.Trace)
}

// hold holds a program's runs against the model's: with steps enough, one fewer, and with each of those fuels that are asked for below that.
func hold(t *testing.T, what string, n api.Node, fuels func(steps int) []int) api.Outcome {
	t.Helper()
	m := modelOf(n)
	o := m.run()
	for _, fuel := range append(fuels(o.Steps), o.Steps-1, o.Steps, o.Steps+1, o.Steps+1000, api.MaxFuel) {
		if fuel < 0 {
			continue
		}
		got, at, e := Run(n, fuel)
		if want := m.at(o, fuel); e != api.OK || at != 0 || !same(got, want) {
			t.Fatalf("%.2000s\nwith %d steps: %v, %d, %d; want %v", what, fuel, got, at, e, want)
		}
	}
	return o
}

// each: all fuels below so many steps.
func each(steps int) []int {
	var all []int
	for fuel := range steps {
		all = append(all, fuel)
	}
	return all
}

// P9.1, P9.2: programs made of draws end as the model says, with each fuel.
func TestRandomPrograms(t *testing.T) {
	r := rand.New(rand.NewSource(9))
	some := func(steps int) []int {
		if steps <= 150 {
			return each(steps)
		}
		var few []int
		for range 20 {
			few = append(few, r.Intn(steps))
		}
		return few
	}
	traps := [6]int{}
	steps, long, answers := 0, 0, 0
	for range 3000 {
		n := (&maker{Rand: r}).program()
		if at, e := types.Check(n); e != api.OK {
			t.Fatalf("the tests' maker: %d at %d: %+v", e, at, n)
		}
		text, _ := show.Text(n)
		o := hold(t, text, n, some)
		traps[o.Trap]++
		steps += o.Steps
		if o.Steps > 100 {
			long++
		}
		if o.Exit != 0 {
			answers++
		}
	}
	t.Logf("traps %v, %d steps, %d long ones, %d exits", traps, steps, long, answers)
	for trap, count := range traps {
		if trap != int(api.TrapForm) && count < 20 {
			t.Errorf("%d programs with the trap %d", count, trap)
		}
	}
	if long < 200 || answers < 200 {
		t.Errorf("%d programs with many steps, %d with an exit", long, answers)
	}
}

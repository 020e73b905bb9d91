package types

import (
	"fmt"
	"maps"
	"math/rand"
	"reflect"
	"slices"
	"testing"

	"burin/api"
	"burin/tree"
)

// model tells the chapter's rules a second time: it answers what is broken instead of giving up, numbers the nodes ahead of all, and has a map for each scope.
type model struct {
	number  map[*api.Node]int
	items   []api.Node
	now     int // the place of the item at hand
	info    Info
	globals *space
}

type space struct {
	about *space
	of    map[string]*thing
}

// thing: a variable; shape is its struct, if it has one.
type thing struct {
	bind  Bind
	is    Local
	shape *api.Node
}

type broken struct {
	node *api.Node
	e    api.Errno
}

func (s *space) find(name string) *thing {
	for ; s != nil; s = s.about {
		if v := s.of[name]; v != nil {
			return v
		}
	}
	return nil
}

func inside(about *space) *space { return &space{about, map[string]*thing{}} }

// goodName is read off chapter 4.
func goodName(s string) bool {
	if len(s) < 1 || len(s) > 8 || slices.Contains([]string{"struct", "if", "else", "for", "to", "print", "return", "i8", "u8", "i16", "u16", "i32", "u32"}, s) {
		return false
	}
	for i := 0; i < len(s); i++ {
		letter, digit := 'a' <= s[i] && s[i] <= 'z', '0' <= s[i] && s[i] <= '9'
		if !letter && (i == 0 || !digit) {
			return false
		}
	}
	return true
}

func goodInt(t api.Type) bool { return t.Kind == 0 && t.Int <= 5 && t.N == 0 }

// fitting is read off chapter 1.
func fitting(t byte, v int64) bool {
	bits := []int{8, 8, 16, 16, 32, 32}[t]
	if t%2 == 0 {
		return v >= -1<<(bits-1) && v < 1<<(bits-1)
	}
	return v >= 0 && v < 1<<bits
}

func modelOf(n api.Node) (Info, int, api.Errno) {
	n = tree.Copy(n)
	m := model{number: map[*api.Node]int{}, items: n.Kids, globals: inside(nil)}
	for id, node := range nodes(&n) {
		m.number[node] = id
	}
	m.info.Ints, m.info.Binds = make([]byte, len(m.number)), make([]Bind, len(m.number))
	if b := m.program(&n); b != nil {
		return Info{}, m.number[b.node], b.e
	}
	return m.info, 0, api.OK
}

func (m *model) bind(n *api.Node, b Bind) { m.info.Binds[m.number[n]] = b }

func (m *model) is(n *api.Node, t byte) byte {
	m.info.Ints[m.number[n]] = t
	return t
}

// ahead: the item of that kind and name that stands ahead of the one at hand.
func (m *model) ahead(kind byte, name string) *api.Node {
	for i := range m.now {
		if m.items[i].Kind == kind && m.items[i].Name == name {
			return &m.items[i]
		}
	}
	return nil
}

func (m *model) program(n *api.Node) *broken {
	if n.Kind != api.Prog || len(n.Kids) == 0 {
		return &broken{n, api.ErrForm}
	}
	last := n.Kids[len(n.Kids)-1]
	if last.Kind != api.Func || last.Name != "main" || len(last.Kids) != 1 || last.Kids[0].Kind != api.Block || !goodInt(last.Type) || last.Type.Int != api.I32 {
		return &broken{n, api.ErrForm}
	}
	for i := range n.Kids {
		m.now = i
		var b *broken
		switch n.Kids[i].Kind {
		case api.Struct:
			b = m.shape(&n.Kids[i])
		case api.Global:
			b = m.declared(&n.Kids[i], m.globals)
		case api.Func:
			b = m.fn(&n.Kids[i])
		default:
			b = &broken{&n.Kids[i], api.ErrForm}
		}
		if b != nil {
			return b
		}
	}
	return nil
}

func (m *model) shape(n *api.Node) *broken {
	if !goodName(n.Name) || len(n.Kids) < 1 || len(n.Kids) > 8 {
		return &broken{n, api.ErrForm}
	}
	if m.ahead(api.Struct, n.Name) != nil {
		return &broken{n, api.ErrTwice}
	}
	names := map[string]bool{}
	for i := range n.Kids {
		f := &n.Kids[i]
		if f.Kind != api.Field || !goodName(f.Name) || !goodInt(f.Type) || len(f.Kids) != 0 {
			return &broken{f, api.ErrForm}
		}
		if names[f.Name] {
			return &broken{f, api.ErrTwice}
		}
		names[f.Name] = true
	}
	return nil
}

// declared: a Global or a Let.
func (m *model) declared(n *api.Node, s *space) *broken {
	if !goodName(n.Name) || len(n.Kids) > 1 || len(n.Kids) == 1 && n.Type.Kind != api.TInt {
		return &broken{n, api.ErrForm}
	}
	v := thing{is: Local{Type: n.Type, Cells: 1}}
	switch n.Type.Kind {
	case api.TInt:
		if !goodInt(n.Type) || n.Field != "" {
			return &broken{n, api.ErrForm}
		}
	case api.TArray:
		if n.Type.Int > 5 || n.Type.N < 1 || n.Type.N > 16 || n.Field != "" {
			return &broken{n, api.ErrForm}
		}
		v.is.Cells = n.Type.N
	case api.TStruct:
		if n.Type.Int != 0 || n.Type.N != 0 || !goodName(n.Field) {
			return &broken{n, api.ErrForm}
		}
		if v.shape = m.ahead(api.Struct, n.Field); v.shape == nil {
			return &broken{n, api.ErrName}
		}
		v.is.Cells = len(v.shape.Kids)
	default:
		return &broken{n, api.ErrForm}
	}
	if len(n.Kids) == 1 {
		if n.Kind == api.Global && n.Kids[0].Kind != api.Lit {
			return &broken{&n.Kids[0], api.ErrForm}
		}
		if b := m.of(&n.Kids[0], s, n.Type.Int); b != nil {
			return b
		}
	}
	if n.Kind == api.Global && m.ahead(api.Func, n.Name) != nil {
		return &broken{n, api.ErrTwice}
	}
	return m.enter(n, s, v)
}

// enter makes a variable known.
func (m *model) enter(n *api.Node, s *space, v thing) *broken {
	if s.of[n.Name] != nil {
		return &broken{n, api.ErrTwice}
	}
	if s == m.globals {
		v.bind = Bind{Where: ToGlobal, Index: len(m.info.Globals)}
		m.info.Globals = append(m.info.Globals, v.is)
	} else {
		list := &m.info.Fns[len(m.info.Fns)-1].Locals
		v.bind = Bind{Where: ToLocal, Index: len(*list)}
		*list = append(*list, v.is)
	}
	m.bind(n, v.bind)
	s.of[n.Name] = &v
	return nil
}

func (m *model) fn(n *api.Node) *broken {
	if !goodName(n.Name) || !goodInt(n.Type) || len(n.Kids) < 1 || len(n.Kids) > 7 {
		return &broken{n, api.ErrForm}
	}
	if m.ahead(api.Func, n.Name) != nil || m.ahead(api.Global, n.Name) != nil {
		return &broken{n, api.ErrTwice}
	}
	m.bind(n, Bind{Where: ToFunc, Index: len(m.info.Fns)})
	m.info.Fns = append(m.info.Fns, Fn{Node: m.number[n], Params: len(n.Kids) - 1, Int: n.Type.Int})
	s := inside(m.globals)
	for i := range n.Kids[1:] {
		p := &n.Kids[i]
		t := p.Type
		if t.Kind == api.TRef {
			t.Kind = api.TInt
		}
		if p.Kind != api.Param || !goodName(p.Name) || !goodInt(t) || len(p.Kids) != 0 {
			return &broken{p, api.ErrForm}
		}
		if b := m.enter(p, s, thing{is: Local{Type: p.Type, Cells: 1}}); b != nil {
			return b
		}
	}
	return m.block(&n.Kids[len(n.Kids)-1], s)
}

func (m *model) block(n *api.Node, about *space) *broken {
	if n.Kind != api.Block {
		return &broken{n, api.ErrForm}
	}
	s := inside(about)
	for i := range n.Kids {
		if b := m.stat(&n.Kids[i], s); b != nil {
			return b
		}
	}
	return nil
}

func (m *model) stat(n *api.Node, s *space) *broken {
	count := len(n.Kids)
	form := &broken{n, api.ErrForm}
	switch n.Kind {
	case api.Let:
		return m.declared(n, s)
	case api.Set:
		if count != 2 {
			return form
		}
		t, b := m.place(&n.Kids[0], s, true)
		if b != nil {
			return b
		}
		return m.of(&n.Kids[1], s, t)
	case api.If:
		if count != 2 && count != 3 {
			return form
		}
		if _, b := m.expr(&n.Kids[0], s); b != nil {
			return b
		}
		if b := m.block(&n.Kids[1], s); b != nil || count == 2 {
			return b
		}
		return m.block(&n.Kids[2], s)
	case api.For:
		if count != 1 || !goodName(n.Name) {
			return form
		}
		if n.N < 0 || n.M < n.N || n.M > 2147483647 || n.M-n.N > 16 {
			return &broken{n, api.ErrArg}
		}
		round := inside(s)
		m.enter(n, round, thing{is: Local{Type: api.Type{Int: api.I32}, Cells: 1, Loop: true}})
		return m.block(&n.Kids[0], round)
	case api.Print, api.Ret:
		if count != 1 {
			return form
		}
		if n.Kind == api.Ret {
			return m.of(&n.Kids[0], s, m.items[m.now].Type.Int)
		}
		_, b := m.expr(&n.Kids[0], s)
		return b
	case api.Call:
		return m.call(n, s)
	}
	return form
}

func (m *model) call(n *api.Node, s *space) *broken {
	if n.N != 0 && (n.N != 1 || len(n.Kids) == 0) {
		return &broken{n, api.ErrForm}
	}
	f := m.ahead(api.Func, n.Name)
	if f == nil {
		for _, item := range m.items[m.now:] {
			if item.Kind == api.Func && item.Name == n.Name {
				return &broken{n, api.ErrCall}
			}
		}
		return &broken{n, api.ErrName}
	}
	m.bind(n, m.info.Binds[m.number[f]])
	if len(n.Kids)-int(n.N) != len(f.Kids)-1 {
		return &broken{n, api.ErrForm}
	}
	for i := range n.Kids {
		kid := &n.Kids[i]
		if i < int(n.N) {
			if t, b := m.place(kid, s, true); b != nil {
				return b
			} else if t != f.Type.Int {
				return &broken{kid, api.ErrType}
			}
			continue
		}
		param := f.Kids[i-int(n.N)].Type
		if (kid.Kind == api.Ref) != (param.Kind == api.TRef) {
			return &broken{kid, api.ErrType}
		}
		if kid.Kind != api.Ref {
			if b := m.of(kid, s, param.Int); b != nil {
				return b
			}
			continue
		}
		if len(kid.Kids) != 1 {
			return &broken{kid, api.ErrForm}
		}
		t, b := m.place(&kid.Kids[0], s, true)
		if b != nil {
			return b
		}
		if m.is(kid, t) != param.Int {
			return &broken{kid, api.ErrType}
		}
	}
	return nil
}

func (m *model) place(n *api.Node, s *space, write bool) (byte, *broken) {
	kinds := map[byte]byte{api.Var: api.TInt, api.Index: api.TArray, api.Member: api.TStruct, api.Deref: api.TRef}
	want, ok := kinds[n.Kind]
	count := 0
	if n.Kind == api.Index {
		count = 1
	}
	if !ok || len(n.Kids) != count || n.Kind == api.Member && !goodName(n.Field) {
		return 0, &broken{n, api.ErrForm}
	}
	v := s.find(n.Name)
	if v == nil {
		return 0, &broken{n, api.ErrName}
	}
	if v.is.Type.Kind != want || write && v.is.Loop {
		return 0, &broken{n, api.ErrType}
	}
	b, t := v.bind, v.is.Type.Int
	if n.Kind == api.Member {
		b.Field = -1
		for i, f := range v.shape.Kids {
			if f.Name == n.Field {
				b.Field, t = i, f.Type.Int
			}
		}
		if b.Field < 0 {
			return 0, &broken{n, api.ErrName}
		}
	}
	m.bind(n, b)
	m.is(n, t)
	if n.Kind == api.Index {
		_, b := m.expr(&n.Kids[0], s)
		return t, b
	}
	return t, nil
}

// of: an expression of that type.
func (m *model) of(n *api.Node, s *space, want byte) *broken {
	t, b := m.expr(n, s)
	if b == nil && t != want {
		b = &broken{n, api.ErrType}
	}
	return b
}

func (m *model) expr(n *api.Node, s *space) (byte, *broken) {
	counts := map[byte]int{api.Unary: 1, api.Cast: 1, api.Binary: 2, api.Cond: 3, api.Lit: 0}
	count, ok := counts[n.Kind]
	if !ok {
		return m.place(n, s, false)
	}
	formed := len(n.Kids) == count
	switch n.Kind {
	case api.Lit:
		formed = formed && goodInt(n.Type) && fitting(n.Type.Int, n.N)
	case api.Cast:
		formed = formed && goodInt(n.Type)
	case api.Unary:
		formed = formed && n.Op >= 1 && n.Op <= 3
	case api.Binary:
		formed = formed && n.Op >= 1 && n.Op <= 18
	}
	if !formed {
		return 0, &broken{n, api.ErrForm}
	}
	var kinds []byte
	for i := range n.Kids {
		t, b := m.expr(&n.Kids[i], s)
		if b != nil {
			return 0, b
		}
		kinds = append(kinds, t)
	}
	switch n.Kind {
	case api.Unary:
		if n.Op == api.Bang {
			return m.is(n, api.I32), nil
		}
		return m.is(n, kinds[0]), nil
	case api.Binary:
		if free := n.Op == 9 || n.Op == 10 || n.Op == 17 || n.Op == 18; kinds[0] != kinds[1] && !free {
			return 0, &broken{&n.Kids[1], api.ErrType}
		}
		if n.Op >= 11 {
			return m.is(n, api.I32), nil
		}
		return m.is(n, kinds[0]), nil
	case api.Cond:
		if kinds[1] != kinds[2] {
			return 0, &broken{&n.Kids[2], api.ErrType}
		}
		return m.is(n, kinds[1]), nil
	}
	return m.is(n, n.Type.Int), nil
}

// others are programs that are right, beside the sample.
var others = []string{
	"i32 main() { }",
	"i8 a = #-1i8; u8 b = 2u8; i32 main() { if (a) { if (b) { print(a); } else { print(b); } } return a < 0i8 ? 1i32 : 0i32; }",
	"struct p { i32 x; i32 y; } struct q { u8 x; } struct p a; i32 f(i32 x) { struct q a; a.x = (u8)x; return (i32)a.x; } i32 main() { a.y = f(a.x); a.x = f(1i32 << a.y); return a.x; }",
	"u8 h(u8 *a, u8 *b, u16 c) { u8 t = *a; *a = *b; *b = t; return (u8)c; } u8 k(u8 *a) { h(&*a, &*a, 1u16); } u8 g[4i32]; i32 main() { for i = 0i32 to 4i32 { for j = 0i32 to 4i32 { h(&g[i], &g[j], (u16)(i * j)); g[i] = k(&g[j]); } } return -1i32 == ~0i32 && !g[0u8] || g[1u8] > 2u8; }",
}

func bases(t *testing.T) []api.Node {
	t.Helper()
	list := []api.Node{sampled(t)}
	for _, s := range others {
		list = append(list, read(t, s))
	}
	return list
}

// compare holds Resolve against the model.
func compare(t *testing.T, what string, n api.Node) api.Errno {
	t.Helper()
	i, at, e := Resolve(n)
	want, wantAt, f := modelOf(n)
	if at != wantAt || e != f || !reflect.DeepEqual(i, want) {
		t.Errorf("%s: %d at %d, %v; want %d at %d, %v: %s", what, e, at, i, f, wantAt, want, told(n))
	}
	return e
}

// singles: changes of one node, of all that a node has.
func singles(all []*api.Node) []change {
	var list []change
	for k := range byte(27) {
		list = append(list, kind(k))
	}
	for o := range byte(21) {
		list = append(list, op(o))
	}
	for k := range byte(5) {
		list = append(list, func(n *api.Node) { n.Type.Kind = k })
	}
	for i := range byte(8) {
		list = append(list, func(n *api.Node) { n.Type.Int = i })
	}
	for _, v := range []int{-1, 0, 1, 2, 16, 17} {
		list = append(list, func(n *api.Node) { n.Type.N = v })
	}
	for _, v := range []int64{-129, -1, 0, 1, 2, 3, 16, 17, 128, 256, 1 << 15, 1 << 31, 1<<31 - 1, 1 << 32, -1 << 63} {
		list = append(list, first(v), last(v))
	}
	for _, s := range []string{"", "A", "none", "i8", "toolongaa"} {
		list = append(list, name(s), field(s))
	}
	names := map[string]int{}
	for _, n := range all {
		names[n.Name]++
		names[n.Field]++
	}
	for _, s := range slices.Sorted(maps.Keys(names)) {
		list = append(list, name(s), field(s))
	}
	for count := range 10 {
		list = append(list, kids(count))
	}
	for at := range 4 {
		list = append(list, func(n *api.Node) {
			if at < len(n.Kids) {
				n.Kids = slices.Insert(n.Kids, at, tree.Copy(n.Kids[at]))
			}
		}, func(n *api.Node) {
			if at < len(n.Kids) {
				n.Kids = slices.Delete(n.Kids, at, at+1)
			}
		}, func(n *api.Node) {
			if at+1 < len(n.Kids) {
				n.Kids[at], n.Kids[at+1] = n.Kids[at+1], n.Kids[at]
			}
		})
	}
	return list
}

// P7.1 against the model: each node of each base with each change, and with each other node in its place.
func TestOneChange(t *testing.T) {
	seen := map[api.Errno]int{}
	for b, base := range bases(t) {
		if e := compare(t, "a base", base); e != api.OK {
			t.Fatalf("base %d: %d", b, e)
		}
		list := nodes(&base)
		for id := range list {
			for i, do := range singles(list) {
				seen[compare(t, fmt.Sprintf("base %d, node %d, change %d", b, id, i), changed(base, map[int]change{id: do}))]++
			}
			for other, n := range list {
				seen[compare(t, fmt.Sprintf("base %d, %d in the place of %d", b, other, id), changed(base, map[int]change{id: become(tree.Copy(*n))}))]++
			}
			if t.Failed() {
				return
			}
		}
	}
	for _, e := range []api.Errno{api.OK, api.ErrArg, api.ErrForm, api.ErrName, api.ErrTwice, api.ErrType, api.ErrCall} {
		if seen[e] < 50 {
			t.Errorf("the error %d comes %d times", e, seen[e])
		}
	}
}

// P7.1 against the model: several changes at once.
func TestSeveralChanges(t *testing.T) {
	r := rand.New(rand.NewSource(7))
	list := bases(t)
	for round := range 60000 {
		base := list[r.Intn(len(list))]
		all := nodes(&base)
		options := singles(all[:1])
		some := map[int]change{}
		for range 2 + r.Intn(3) {
			id := r.Intn(len(all))
			switch r.Intn(3) {
			case 0:
				some[id] = options[r.Intn(len(options))]
			case 1:
				some[id] = become(tree.Copy(*all[r.Intn(len(all))]))
			default:
				some[id] = name(all[r.Intn(len(all))].Name)
			}
		}
		compare(t, fmt.Sprintf("round %d", round), changed(base, some))
		if t.Failed() {
			return
		}
	}
}

// P1, P7.1: trees that are no programs at all.
func TestRandomTrees(t *testing.T) {
	r := rand.New(rand.NewSource(11))
	var draw func(depth int) api.Node
	draw = func(depth int) api.Node {
		n := api.Node{Kind: byte(r.Intn(26)), Op: byte(r.Intn(20)), Type: api.Type{Kind: byte(r.Intn(5)), Int: byte(r.Intn(7)), N: r.Intn(4) - 1}, N: int64(r.Intn(4) - 1), M: int64(r.Intn(4) - 1), Name: string(rune('a' + r.Intn(4))), Field: string(rune('a' + r.Intn(4)))}
		if depth > 0 {
			for range r.Intn(4) {
				n.Kids = append(n.Kids, draw(depth-1))
			}
		}
		return n
	}
	for round := range 3000 {
		n := draw(r.Intn(6))
		compare(t, fmt.Sprintf("tree %d", round), n)
		compare(t, fmt.Sprintf("tree %d within a program", round), prog(n, mainOf(n, draw(3))))
		compare(t, fmt.Sprintf("tree %d within an expression", round), prog(mainOf(api.Node{Kind: api.Print, Kids: []api.Node{n}})))
	}
}

package types

import (
	"fmt"
	"math"
	"reflect"
	"slices"
	"strings"
	"testing"

	"burin/api"
	"burin/parse"
	"burin/tree"
)

// The signatures that the chapter lists, and its types.
var (
	_ func(api.Node) (int, api.Errno)       = Check
	_ func(api.Node) (Info, int, api.Errno) = Resolve

	_ struct {
		Where        byte
		Index, Field int
	} = Bind{}
	_ struct {
		Type  api.Type
		Cells int
		Loop  bool
	} = Local{}
	_ struct {
		Node, Params int
		Int          byte
		Locals       []Local
	} = Fn{}
	_ struct {
		Ints    []byte
		Binds   []Bind
		Globals []Local
		Fns     []Fn
	} = Info{}
)

func read(t *testing.T, s string) api.Node {
	t.Helper()
	n, at, e := parse.Parse(s)
	if e != api.OK {
		t.Fatalf("Parse(%q): %d at %d", s, e, at)
	}
	return n
}

// right asks for a program that is right, and answers what is known of it.
func right(t *testing.T, what string, n api.Node) Info {
	t.Helper()
	i, at, e := Resolve(n)
	if at != 0 || e != api.OK || len(i.Ints) != tree.Size(n) || len(i.Binds) != tree.Size(n) {
		t.Errorf("%.300s: %d at %d, %d Ints, %d Binds; want a program that is right", what, e, at, len(i.Ints), len(i.Binds))
		return Info{Ints: make([]byte, tree.Size(n)), Binds: make([]Bind, tree.Size(n))}
	}
	if at, e := Check(n); at != 0 || e != api.OK {
		t.Errorf("%.300s: Check = %d at %d", what, e, at)
	}
	return i
}

// wrong asks for a fault, and that nothing stands beside it.
func wrong(t *testing.T, what string, n api.Node, at int, e api.Errno) {
	t.Helper()
	i, gotAt, got := Resolve(n)
	if gotAt != at || got != e || !reflect.DeepEqual(i, Info{}) {
		t.Errorf("%.300s: %d at %d, %v; want %d at %d", what, got, gotAt, i, e, at)
	}
	if gotAt, got := Check(n); gotAt != at || got != e {
		t.Errorf("%.300s: Check = %d at %d; want %d at %d", what, got, gotAt, e, at)
	}
}

// verdict is what is asked of a text: OK, or the error and its node.
type verdict struct {
	text string
	at   int
	e    api.Errno
}

func judge(t *testing.T, list []verdict) {
	t.Helper()
	for _, v := range list {
		if n := read(t, v.text); v.e == api.OK {
			right(t, v.text, n)
		} else {
			wrong(t, v.text, n, v.at, v.e)
		}
	}
}

// A change is made to one node of a program.
type change func(*api.Node)

func kind(k byte) change       { return func(n *api.Node) { n.Kind = k } }
func op(o byte) change         { return func(n *api.Node) { n.Op = o } }
func name(s string) change     { return func(n *api.Node) { n.Name = s } }
func field(s string) change    { return func(n *api.Node) { n.Field = s } }
func typed(t api.Type) change  { return func(n *api.Node) { n.Type = t } }
func first(v int64) change     { return func(n *api.Node) { n.N = v } }
func last(v int64) change      { return func(n *api.Node) { n.M = v } }
func become(m api.Node) change { return func(n *api.Node) { *n = m } }

// kids: so many, those behind the ones that are there being a Lit.
func kids(count int) change {
	return func(n *api.Node) {
		for len(n.Kids) < count {
			n.Kids = append(n.Kids, lit(api.I32, 0))
		}
		n.Kids = n.Kids[:count]
	}
}

func lit(t byte, v int64) api.Node { return api.Node{Kind: api.Lit, Type: whole(t), N: v} }

func array(t byte, n int) api.Type { return api.Type{Kind: api.TArray, Int: t, N: n} }

// nodes: all of a tree, by their numbers.
func nodes(n *api.Node) []*api.Node {
	list := []*api.Node{n}
	for i := range n.Kids {
		list = append(list, nodes(&n.Kids[i])...)
	}
	return list
}

// changed: n with changes, each at the node of a number. The greatest number goes first, since a node's change may move its kids.
func changed(n api.Node, changes map[int]change) api.Node {
	n = tree.Copy(n)
	list := nodes(&n)
	for id := len(list) - 1; id >= 0; id-- {
		if do, ok := changes[id]; ok {
			do(list[id])
		}
	}
	return n
}

// sample has each kind of node, in each place where it can stand; ahead of each line stands the number of its first node.
const sample = `
/*  1 */ struct s { u8 a; i16 b; }
/*  4 */ u8 g = 5u8;
/*  6 */ u16 h[3i32];
/*  7 */ struct s r;
/*  8 */ i16 f(i16 p, u8 *q) {
/* 12 */   i16 x = p + 1i16;
/* 16 */   u32 y[2i32];
/* 17 */   struct s z;
/* 18 */   x = -p;
/* 22 */   y[g] = y[1i32];
/* 27 */   z.b = r.b;
/* 30 */   *q = *q;
/* 33 */   if (x < p) { print(x); } else { return 1i16; }
/* 43 */   for i = 0i32 to 3i32 { print(i); }
/* 47 */   return x ? p : x;
         }
/* 52 */ i32 main() {
/* 54 */   i16 v;
/* 55 */   u8 w;
/* 56 */   f(1i16, &w);
/* 60 */   v = f(v, &g);
/* 65 */   return (i32)v;
         }`

// sampled: the sample's program. Its numbers are no remarks of the language.
func sampled(t *testing.T) api.Node {
	t.Helper()
	var lines []string
	for line := range strings.Lines(sample) {
		if number, code, ok := strings.Cut(line, "*/"); ok && strings.HasPrefix(number, "/*") {
			line = code
		}
		lines = append(lines, line)
	}
	return read(t, strings.Join(lines, ""))
}

// The chapter's examples, and the document's fifth.
func TestExamples(t *testing.T) {
	if where := [...]byte{Nowhere, ToGlobal, ToLocal, ToFunc}; where != [...]byte{0, 1, 2, 3} {
		t.Errorf("where names lead: %v", where)
	}
	s := "u8 g; i32 main() { i32 x = (i32)g; print(x); return x; }"
	want := Info{
		Ints:    []byte{0, 0, 0, 0, 0, api.I32, api.U8, 0, api.I32, 0, api.I32},
		Binds:   []Bind{{}, {ToGlobal, 0, 0}, {ToFunc, 0, 0}, {}, {ToLocal, 0, 0}, {}, {ToGlobal, 0, 0}, {}, {ToLocal, 0, 0}, {}, {ToLocal, 0, 0}},
		Globals: []Local{{Type: api.Type{Kind: api.TInt, Int: api.U8}, Cells: 1}},
		Fns:     []Fn{{Node: 2, Params: 0, Int: api.I32, Locals: []Local{{Type: api.Type{Int: api.I32}, Cells: 1}}}},
	}
	if i := right(t, s, read(t, s)); !reflect.DeepEqual(i, want) {
		t.Errorf("Resolve = %v; want %v", i, want)
	}
	judge(t, []verdict{
		{"i32 main() { x = 1i32; }", 4, api.ErrName},
		{"i32 main() { print(1i32 + 1u8); }", 6, api.ErrType},
		{"i32 main() { main(); }", 3, api.ErrCall},
		{"i32 f() { }", 0, api.ErrForm},
		{"i32 main() { for i = 0i32 to 2i32 { i = 1i32; } }", 6, api.ErrType},
		{"i32 main() { for i = 0i32 to 17i32 { } }", 3, api.ErrArg},
		{"u8 a[0i32]; i32 main() { }", 1, api.ErrForm},
	})
}

// P7.1: all that is known of the sample.
func TestSample(t *testing.T) {
	n := sampled(t)
	i := right(t, "the sample", n)
	local := func(t api.Type, cells int) Local { return Local{Type: t, Cells: cells} }
	globals := []Local{local(whole(api.U8), 1), local(array(api.U16, 3), 3), local(api.Type{Kind: api.TStruct}, 2)}
	fns := []Fn{
		{Node: 8, Params: 2, Int: api.I16, Locals: []Local{
			local(whole(api.I16), 1), local(api.Type{Kind: api.TRef, Int: api.U8}, 1), local(whole(api.I16), 1), local(array(api.U32, 2), 2),
			local(api.Type{Kind: api.TStruct}, 2), {Type: whole(api.I32), Cells: 1, Loop: true},
		}},
		{Node: 52, Params: 0, Int: api.I32, Locals: []Local{local(whole(api.I16), 1), local(whole(api.U8), 1)}},
	}
	if !reflect.DeepEqual(i.Globals, globals) || !reflect.DeepEqual(i.Fns, fns) {
		t.Errorf("Globals %v, Fns %v; want %v, %v", i.Globals, i.Fns, globals, fns)
	}
	types := map[int]byte{
		5: api.U8, 13: api.I16, 14: api.I16, 15: api.I16, 19: api.I16, 20: api.I16, 21: api.I16, 23: api.U32, 24: api.U8, 25: api.U32, 26: api.I32,
		28: api.I16, 29: api.I16, 31: api.U8, 32: api.U8, 34: api.I32, 35: api.I16, 36: api.I16, 39: api.I16, 42: api.I16, 46: api.I32,
		48: api.I16, 49: api.I16, 50: api.I16, 51: api.I16, 57: api.I16, 58: api.U8, 59: api.U8, 61: api.I16, 62: api.I16, 63: api.U8, 64: api.U8,
		66: api.I32, 67: api.I16,
	}
	binds := map[int]Bind{
		4: {ToGlobal, 0, 0}, 6: {ToGlobal, 1, 0}, 7: {ToGlobal, 2, 0}, 8: {ToFunc, 0, 0}, 9: {ToLocal, 0, 0}, 10: {ToLocal, 1, 0},
		12: {ToLocal, 2, 0}, 14: {ToLocal, 0, 0}, 16: {ToLocal, 3, 0}, 17: {ToLocal, 4, 0}, 19: {ToLocal, 2, 0}, 21: {ToLocal, 0, 0},
		23: {ToLocal, 3, 0}, 24: {ToGlobal, 0, 0}, 25: {ToLocal, 3, 0}, 28: {ToLocal, 4, 1}, 29: {ToGlobal, 2, 1}, 31: {ToLocal, 1, 0}, 32: {ToLocal, 1, 0},
		35: {ToLocal, 2, 0}, 36: {ToLocal, 0, 0}, 39: {ToLocal, 2, 0}, 43: {ToLocal, 5, 0}, 46: {ToLocal, 5, 0}, 49: {ToLocal, 2, 0}, 50: {ToLocal, 0, 0}, 51: {ToLocal, 2, 0},
		52: {ToFunc, 1, 0}, 54: {ToLocal, 0, 0}, 55: {ToLocal, 1, 0}, 56: {ToFunc, 0, 0}, 59: {ToLocal, 1, 0}, 60: {ToFunc, 0, 0},
		61: {ToLocal, 0, 0}, 62: {ToLocal, 0, 0}, 64: {ToGlobal, 0, 0}, 67: {ToLocal, 0, 0},
	}
	for id := range tree.Size(n) {
		if i.Ints[id] != types[id] || i.Binds[id] != binds[id] {
			t.Errorf("node %d: %d, %v; want %d, %v", id, i.Ints[id], i.Binds[id], types[id], binds[id])
		}
	}
	kinds, _ := tree.List(n)
	for k := api.Prog; k <= api.Ref; k++ {
		if !slices.Contains(kinds, k) {
			t.Errorf("no node of the kind %d", k)
		}
	}
}

// spoilt is one change of the sample, or two, and what is asked of it.
type spoilt struct {
	changes map[int]change
	at      int
	e       api.Errno
}

func judgeSpoilt(t *testing.T, list []spoilt) {
	t.Helper()
	base := sampled(t)
	for i, x := range list {
		var ids []int
		for id := range x.changes {
			ids = append(ids, id)
		}
		slices.Sort(ids)
		what := fmt.Sprintf("row %d, changes at %v", i, ids)
		if n := changed(base, x.changes); x.e == api.OK {
			right(t, what, n)
		} else {
			wrong(t, what, n, x.at, x.e)
		}
	}
}

// noNames can't stand where a name must.
var noNames = []string{"", "A", "aB", "1", "1a", "a_b", "a b", " a", "a ", "ä", "abcdefghi", "struct", "if", "else", "for", "to", "print", "return", "i8", "u8", "i16", "u16", "i32", "u32", "a\x00", "\xff", "-"}

// Rules of form: a name that is no name, at each node that must have one; a name of the greatest length is one.
func TestNames(t *testing.T) {
	base := sampled(t)
	for _, id := range []int{1, 2, 3, 4, 6, 7, 8, 9, 10, 12, 16, 17, 43, 54, 55} {
		for _, s := range noNames {
			wrong(t, fmt.Sprintf("the name %q of %d", s, id), changed(base, map[int]change{id: name(s)}), id, api.ErrForm)
		}
	}
	for _, id := range []int{7, 17} {
		for _, s := range noNames {
			wrong(t, fmt.Sprintf("the struct %q of %d", s, id), changed(base, map[int]change{id: field(s)}), id, api.ErrForm)
		}
	}
	for _, id := range []int{28, 29} {
		for _, s := range noNames {
			wrong(t, fmt.Sprintf("the field %q of %d", s, id), changed(base, map[int]change{id: field(s)}), id, api.ErrForm)
		}
	}
	for _, s := range []string{"a", "z9", "abcdefgh", "z0000000", "i9", "iff", "i8x", "mains"} {
		for _, id := range []int{2, 6, 54} {
			text := map[int]change{id: name(s)}
			if id == 54 {
				text[61], text[62], text[67] = name(s), name(s), name(s)
			}
			right(t, fmt.Sprintf("the name %q of %d", s, id), changed(base, text))
		}
		all := map[int]change{1: name(s), 7: field(s), 17: field(s), 3: name("y" + s[1:]), 28: field("y" + s[1:]), 29: field("y" + s[1:])}
		right(t, "all of a struct "+s, changed(base, all))
	}
}

// A Name that only stands for something is looked up as it is.
func TestNamesLookedUp(t *testing.T) {
	base := sampled(t)
	for _, id := range []int{14, 19, 21, 23, 24, 25, 28, 29, 31, 32, 35, 36, 39, 46, 49, 50, 51, 56, 59, 60, 61, 62, 64, 67} {
		for _, s := range append([]string{"none", "s", "xx"}, noNames...) {
			wrong(t, fmt.Sprintf("the name %q of %d", s, id), changed(base, map[int]change{id: name(s)}), id, api.ErrName)
		}
	}
	for _, id := range []int{28, 29} {
		for _, s := range []string{"c", "s", "z", "ab", "bb"} {
			wrong(t, fmt.Sprintf("the field %q of %d", s, id), changed(base, map[int]change{id: field(s)}), id, api.ErrName)
		}
	}
}

// The root.
func TestRoot(t *testing.T) {
	base := sampled(t)
	for k := range 256 {
		if byte(k) != api.Prog {
			wrong(t, fmt.Sprintf("a root of the kind %d", k), changed(base, map[int]change{0: kind(byte(k))}), 0, api.ErrForm)
			wrong(t, fmt.Sprintf("a root of the kind %d alone", k), api.Node{Kind: byte(k)}, 0, api.ErrForm)
		}
		if byte(k) != api.Func {
			wrong(t, fmt.Sprintf("the last kid of the kind %d", k), changed(base, map[int]change{52: kind(byte(k))}), 0, api.ErrForm)
		}
		if byte(k) != api.Block {
			wrong(t, fmt.Sprintf("main's kid of the kind %d", k), changed(base, map[int]change{53: kind(byte(k))}), 0, api.ErrForm)
		}
	}
	for _, s := range append([]string{"mai", "main0", "Main", "f", "x"}, noNames...) {
		wrong(t, "main's name is "+s, changed(base, map[int]change{52: name(s)}), 0, api.ErrForm)
	}
	for _, x := range []api.Type{whole(api.U32), whole(api.I16), whole(api.I8), whole(6), {Int: api.I32, N: 1}, {Kind: api.TRef, Int: api.I32}, array(api.I32, 1), {Kind: api.TStruct}} {
		wrong(t, fmt.Sprintf("main's type is %v", x), changed(base, map[int]change{52: typed(x)}), 0, api.ErrForm)
	}
	judgeSpoilt(t, []spoilt{
		{map[int]change{52: kids(0)}, 0, api.ErrForm},
		{map[int]change{52: kids(2)}, 0, api.ErrForm},
		{map[int]change{0: kids(0)}, 0, api.ErrForm},
		{map[int]change{0: kids(1)}, 0, api.ErrForm},
		{map[int]change{0: kids(5)}, 0, api.ErrForm},
		{map[int]change{0: kids(7)}, 0, api.ErrForm},
		{map[int]change{52: func(n *api.Node) {
			n.Kids = []api.Node{{Kind: api.Param, Name: "a", Type: whole(api.I32)}, n.Kids[0]}
		}}, 0, api.ErrForm},
		// The root goes ahead of all else.
		{map[int]change{0: kids(5), 1: name("")}, 0, api.ErrForm},
		{map[int]change{1: name(""), 52: name("m")}, 0, api.ErrForm},
		{map[int]change{4: kids(2), 53: kind(api.Let)}, 0, api.ErrForm},
	})
	judge(t, []verdict{{"", 0, api.ErrForm}, {"u8 main;", 0, api.ErrForm}, {"i32 main() { } u8 g;", 0, api.ErrForm}, {"i32 main() { } i32 f() { }", 0, api.ErrForm}, {"i32 main(i32 a) { }", 0, api.ErrForm}, {"u32 main() { }", 0, api.ErrForm}, {"i32 main() { }", 0, api.OK}})
	wrong(t, "the zero node", api.Node{}, 0, api.ErrForm)
}

// A kid of a kind that can't stand there, at each place.
func TestKinds(t *testing.T) {
	base := sampled(t)
	places := []struct {
		ids   []int
		kinds []byte // which can stand there, so that they are of the form or refused for something else
	}{
		{[]int{1, 4, 6, 7, 8}, []byte{api.Struct, api.Global, api.Func}},
		{[]int{2, 3}, []byte{api.Field}},
		{[]int{5}, []byte{api.Lit}},
		{[]int{9, 10}, []byte{api.Param}},
		{[]int{11, 37, 40, 44}, []byte{api.Block}},
		{[]int{12, 16, 17, 18, 22, 27, 30, 33, 38, 41, 43, 45, 47, 54, 55, 56, 60, 65}, []byte{api.Let, api.Set, api.If, api.For, api.Print, api.Call, api.Ret}},
		{[]int{13, 14, 15, 20, 21, 24, 25, 26, 29, 32, 34, 35, 36, 39, 42, 46, 48, 49, 50, 51, 66, 67}, []byte{api.Lit, api.Var, api.Index, api.Member, api.Deref, api.Unary, api.Binary, api.Cast, api.Cond}},
		{[]int{19, 23, 28, 31, 59, 61, 64}, []byte{api.Var, api.Index, api.Member, api.Deref}},
		{[]int{57, 62}, []byte{api.Lit, api.Var, api.Index, api.Member, api.Deref, api.Unary, api.Binary, api.Cast, api.Cond, api.Ref}},
	}
	for _, p := range places {
		for _, id := range p.ids {
			for k := range 256 {
				if !slices.Contains(p.kinds, byte(k)) {
					wrong(t, fmt.Sprintf("node %d of the kind %d", id, k), changed(base, map[int]change{id: kind(byte(k))}), id, api.ErrForm)
				}
			}
		}
	}
	// Where a parameter has TRef no other kind than Ref is looked at.
	for _, id := range []int{58, 63} {
		for k := range 256 {
			if byte(k) != api.Ref {
				wrong(t, fmt.Sprintf("node %d of the kind %d", id, k), changed(base, map[int]change{id: kind(byte(k))}), id, api.ErrType)
			}
		}
	}
}

// A count of kids that a node can't have.
func TestCounts(t *testing.T) {
	base := sampled(t)
	list := nodes(&base)
	fits := map[byte][]int{
		api.Struct: {1, 2, 3, 4, 5, 6, 7, 8}, api.Field: {0}, api.Global: {0, 1}, api.Func: {1, 2, 3, 4, 5, 6, 7}, api.Param: {0}, api.Let: {0, 1}, api.Set: {2}, api.If: {2, 3},
		api.For: {1}, api.Print: {1}, api.Ret: {1}, api.Lit: {0}, api.Var: {0}, api.Index: {1}, api.Member: {0}, api.Deref: {0}, api.Unary: {1}, api.Binary: {2}, api.Cast: {1}, api.Cond: {3}, api.Ref: {1}, api.Call: nil,
	}
	for id, n := range list {
		counts, asked := fits[n.Kind]
		if !asked || id == 52 {
			continue
		}
		for count := range 12 {
			fine := slices.Contains(counts, count)
			switch {
			case n.Kind == api.Call:
				fine = count == 2+int(n.N)
			case n.Kind == api.Global || n.Kind == api.Let:
				fine = fine && (count == 0 || n.Type.Kind == api.TInt)
			}
			if !fine {
				wrong(t, fmt.Sprintf("node %d of the kind %d with %d kids", id, n.Kind, count), changed(base, map[int]change{id: kids(count)}), id, api.ErrForm)
			}
		}
	}
}

// A Type that isn't of the form that is asked for.
func TestTypeForms(t *testing.T) {
	base := sampled(t)
	var all []api.Type
	for _, k := range []byte{api.TInt, api.TArray, api.TStruct, api.TRef, 4, 255} {
		for _, i := range []byte{api.I8, api.U8, api.I16, api.U16, api.I32, api.U32, 6, 7, 255} {
			for _, n := range []int{math.MinInt, -1, 0, 1, 2, 15, 16, 17, math.MaxInt} {
				all = append(all, api.Type{Kind: k, Int: i, N: n})
			}
		}
	}
	isInt := func(x api.Type) bool { return x.Kind == api.TInt && x.Int < 6 && x.N == 0 }
	isRef := func(x api.Type) bool { return x.Kind == api.TRef && x.Int < 6 && x.N == 0 }
	isArray := func(x api.Type) bool { return x.Kind == api.TArray && x.Int < 6 && x.N >= 1 && x.N <= 16 }
	isStruct := func(x api.Type) bool { return x == api.Type{Kind: api.TStruct} }
	for _, x := range all {
		for _, id := range []int{2, 3, 5, 8, 9, 10, 15, 26, 42, 57, 66} {
			if isInt(x) || isRef(x) && (id == 9 || id == 10) {
				continue
			}
			wrong(t, fmt.Sprintf("node %d of the type %v", id, x), changed(base, map[int]change{id: typed(x)}), id, api.ErrForm)
		}
		for _, id := range []int{4, 6, 7, 12, 16, 17, 54, 55} {
			n := changed(base, map[int]change{id: func(n *api.Node) { n.Type, n.Field = x, "" }})
			m := changed(base, map[int]change{id: func(n *api.Node) { n.Type, n.Field = x, "s" }})
			hasKid := id == 4 || id == 12
			if !isInt(x) && (!isArray(x) || hasKid) {
				wrong(t, fmt.Sprintf("node %d of the type %v", id, x), n, id, api.ErrForm)
			}
			if !isStruct(x) || hasKid {
				wrong(t, fmt.Sprintf("node %d of the type %v with a Field", id, x), m, id, api.ErrForm)
			}
		}
		// One that nothing reads may be each of the three.
		for _, about := range []func(api.Node) api.Node{globally, locally} {
			v := api.Node{Kind: api.Let, Name: "x", Type: x}
			if n := about(v); isInt(x) || isArray(x) {
				right(t, fmt.Sprintf("a variable of the type %v", x), n)
			} else {
				wrong(t, fmt.Sprintf("a variable of the type %v", x), n, placeOf(n), api.ErrForm)
			}
			v.Field = "s"
			if n := about(v); isStruct(x) {
				right(t, fmt.Sprintf("a variable of the type %v with a Field", x), n)
			} else {
				wrong(t, fmt.Sprintf("a variable of the type %v with a Field", x), n, placeOf(n), api.ErrForm)
			}
		}
	}
}

func block(stats ...api.Node) api.Node { return api.Node{Kind: api.Block, Kids: stats} }

func mainOf(stats ...api.Node) api.Node {
	return api.Node{Kind: api.Func, Name: "main", Type: whole(api.I32), Kids: []api.Node{block(stats...)}}
}

func prog(items ...api.Node) api.Node { return api.Node{Kind: api.Prog, Kids: items} }

// pair: a struct s of a, an u8, and b, an i16.
func pair() api.Node {
	return api.Node{Kind: api.Struct, Name: "s", Kids: []api.Node{{Kind: api.Field, Name: "a", Type: whole(api.U8)}, {Kind: api.Field, Name: "b", Type: whole(api.I16)}}}
}

// globally, locally: a program of the pair and a variable.
func globally(v api.Node) api.Node {
	v.Kind = api.Global
	return prog(pair(), v, mainOf())
}

func locally(v api.Node) api.Node {
	v.Kind = api.Let
	return prog(pair(), mainOf(v))
}

// placeOf: the number of the first Global or Let.
func placeOf(n api.Node) int {
	list, _ := tree.List(n)
	return slices.IndexFunc(list, func(k byte) bool { return k == api.Global || k == api.Let })
}

// Fields of a node that no rule names aren't asked.
func TestFieldsThatAreNotAsked(t *testing.T) {
	base := sampled(t)
	list := nodes(&base)
	asked := map[byte]string{
		api.Struct: "name", api.Field: "name type", api.Global: "name type field", api.Func: "name type", api.Param: "name type", api.Let: "name type field",
		api.For: "name n m", api.Call: "name n", api.Lit: "type n", api.Var: "name", api.Index: "name", api.Member: "name field", api.Deref: "name", api.Unary: "op", api.Binary: "op", api.Cast: "type",
	}
	want := right(t, "the sample", base)
	for id, n := range list {
		for what, do := range map[string]change{"name": name("?"), "field": field("?"), "type": typed(api.Type{Kind: 9, Int: 9, N: -9}), "n": first(-9), "m": last(-9), "op": op(99)} {
			if slices.Contains(strings.Fields(asked[n.Kind]), what) {
				continue
			}
			label := fmt.Sprintf("another %s of node %d", what, id)
			if i := right(t, label, changed(base, map[int]change{id: do})); !reflect.DeepEqual(i, want) {
				t.Errorf("%s: another Info", label)
			}
		}
	}
}

// Structs: their names, the count of their fields, and what may have the same name.
func TestStructs(t *testing.T) {
	judge(t, []verdict{
		{"struct a { u8 x; } struct a { u8 y; } i32 main() { }", 3, api.ErrTwice},
		{"struct a { u8 x; } struct b { u8 x; } struct a { i8 z; } i32 main() { }", 5, api.ErrTwice},
		{"struct a { u8 x; u8 x; } i32 main() { }", 3, api.ErrTwice},
		{"struct a { u8 x; u8 y; i16 x; } i32 main() { }", 4, api.ErrTwice},
		{"struct a { u8 x; u8 y; i16 y; } i32 main() { }", 4, api.ErrTwice},
		{"struct a { u8 a; } struct b { u8 a; } u8 a; u8 b; i32 main() { }", 0, api.OK},
		{"struct main { u8 main; } i32 main() { struct main main; main.main = 1u8; }", 0, api.OK},
		{"struct f { u8 f; } i8 f() { } i32 main() { }", 0, api.OK},
		{"struct a { } i32 main() { }", 1, api.ErrForm},
		{"struct a { } struct a { } i32 main() { }", 1, api.ErrForm},
		{"struct a { u8 x; } struct a { } i32 main() { }", 3, api.ErrForm},
		{"struct a { u8 x; u8 x; } struct a { } i32 main() { }", 3, api.ErrTwice},
		{"struct a b; struct a { u8 x; } i32 main() { }", 1, api.ErrName},
		{"struct a { u8 x; } struct b c; i32 main() { }", 3, api.ErrName},
		{"i32 main() { struct a b; }", 3, api.ErrName},
		{"i8 f() { struct a b; } struct a { u8 x; } i32 main() { }", 3, api.ErrName},
		{"u8 a; struct a b; i32 main() { }", 2, api.ErrName},
		{"struct a { u8 x; } i8 f() { struct a b; } i32 main() { struct a b; }", 0, api.OK},
	})
	for count := range 12 {
		s := api.Node{Kind: api.Struct, Name: "s"}
		for i := range count {
			s.Kids = append(s.Kids, api.Node{Kind: api.Field, Name: "f" + string(rune('a'+i)), Type: whole(byte(i % 6))})
		}
		v := api.Node{Kind: api.Global, Name: "v", Type: api.Type{Kind: api.TStruct}, Field: "s"}
		n := prog(s, v, mainOf(v))
		n.Kids[2].Kids[0].Kids[0].Kind = api.Let
		if count < 1 || count > api.MaxFields {
			wrong(t, fmt.Sprintf("%d fields", count), n, 1, api.ErrForm)
			continue
		}
		if i := right(t, fmt.Sprintf("%d fields", count), n); i.Globals[0].Cells != count || i.Fns[0].Locals[0].Cells != count {
			t.Errorf("%d fields: %v", count, i)
		}
	}
}

// Each field of a struct has its own place and type.
func TestMembers(t *testing.T) {
	s := "struct s { i8 a; u8 b; i16 c; u16 d; i32 e; u32 f; i8 g; u8 h; } struct s v; i32 main() { print(v.%s); v.%[1]s = 1%s; }"
	for i, word := range strings.Fields("i8 u8 i16 u16 i32 u32 i8 u8") {
		field := string(rune('a' + i))
		n := read(t, fmt.Sprintf(s, field, word))
		k := right(t, field, n)
		for _, id := range []int{14, 16} {
			if k.Ints[id] != byte(i%6) || k.Binds[id] != (Bind{ToGlobal, 0, i}) {
				t.Errorf("field %s: %d, %v", field, k.Ints[id], k.Binds[id])
			}
		}
	}
	judge(t, []verdict{
		{"struct a { u8 x; } struct b { u8 y; } struct b v; i32 main() { print(v.x); }", 9, api.ErrName},
		{"struct a { u8 x; } struct b { u8 y; } struct b v; i32 main() { print(v.y); }", 0, api.OK},
		{"struct a { u8 x; } struct b { u8 y; } struct b v; i32 main() { v.x = 1u8; }", 9, api.ErrName},
		{"struct a { u8 x; } struct a v; i32 main() { struct a v; print(v.x); v.x = 2i8; }", 11, api.ErrType},
	})
}

// Globals and functions: names that are there already.
func TestItemsTwice(t *testing.T) {
	judge(t, []verdict{
		{"u8 a; u8 a; i32 main() { }", 2, api.ErrTwice},
		{"u8 a; u8 b; u16 a[3i32]; i32 main() { }", 3, api.ErrTwice},
		{"u8 a = 1u8; i8 a = 1i8; i32 main() { }", 3, api.ErrTwice},
		{"u8 a() { } u8 a; i32 main() { }", 3, api.ErrTwice},
		{"u8 a; u8 a() { } i32 main() { }", 2, api.ErrTwice},
		{"u8 a() { } i8 a() { } i32 main() { }", 3, api.ErrTwice},
		{"u8 a() { } u8 b; u8 a(u8 x) { } i32 main() { }", 4, api.ErrTwice},
		{"u8 main; i32 main() { }", 2, api.ErrTwice},
		{"i32 main() { } i32 main() { }", 3, api.ErrTwice},
		{"u8 main() { } i32 main() { }", 3, api.ErrTwice},
		{"struct s { u8 x; } struct s a; u8 a; i32 main() { }", 4, api.ErrTwice},
		{"u8 a; u8 b() { } u8 c; u8 d() { } i32 main() { }", 0, api.OK},
		// The parameters, the locals and the structs are other names than those of functions.
		{"u8 f(u8 f) { return f; } i32 main() { i32 f; i32 main; f = f; main = f; }", 0, api.OK},
		{"u8 a; u8 f(u8 a) { u8 a = a; return a; } i32 main() { }", 0, api.OK},
		{"u8 f(u8 a, u8 a) { } i32 main() { }", 3, api.ErrTwice},
		{"u8 f(u8 a, i8 b, u8 *a) { } i32 main() { }", 4, api.ErrTwice},
		{"u8 f(u8 a, u8 b) { } u8 g(u8 a, u8 b) { } i32 main() { }", 0, api.OK},
	})
}

// Globals' first numbers.
func TestGlobalKids(t *testing.T) {
	judge(t, []verdict{
		{"u8 a = 5i8; i32 main() { }", 2, api.ErrType},
		{"i32 a = 5u32; i32 main() { }", 2, api.ErrType},
		{"i32 a = #-5i32; u32 b = 4294967295u32; i32 main() { }", 0, api.OK},
	})
	v := api.Node{Kind: api.Var, Name: "a"}
	sum := api.Node{Kind: api.Binary, Op: api.Add, Kids: []api.Node{lit(api.U8, 1), lit(api.I8, 1)}}
	cast := api.Node{Kind: api.Cast, Type: whole(api.U8), Kids: []api.Node{lit(api.U8, 1)}}
	for _, kid := range []api.Node{v, sum, cast, {Kind: api.Unary, Op: api.Neg, Kids: []api.Node{lit(api.U8, 1)}}, {}} {
		n := prog(api.Node{Kind: api.Global, Name: "a", Type: whole(api.U8)}, api.Node{Kind: api.Global, Name: "b", Type: whole(api.U8), Kids: []api.Node{kid}}, mainOf())
		wrong(t, fmt.Sprintf("a global's kid of the kind %d", kid.Kind), n, 3, api.ErrForm)
		n.Kids[1].Name = "a"
		wrong(t, fmt.Sprintf("a global's kid of the kind %d, and its name twice", kid.Kind), n, 3, api.ErrForm)
		n.Kids[1].Name = "A"
		wrong(t, fmt.Sprintf("a global's kid of the kind %d, and no name", kid.Kind), n, 2, api.ErrForm)
		n.Kids[1].Name, n.Kids[1].Type = "b", array(api.U8, 2)
		wrong(t, fmt.Sprintf("an array's kid of the kind %d", kid.Kind), n, 2, api.ErrForm)
	}
}

// Parameters, up to as many as may be.
func TestParams(t *testing.T) {
	for count := range 10 {
		f := api.Node{Kind: api.Func, Name: "f", Type: whole(api.U16)}
		call := api.Node{Kind: api.Call, Name: "f"}
		for i := range count {
			f.Kids = append(f.Kids, api.Node{Kind: api.Param, Name: "p" + string(rune('a'+i)), Type: whole(byte(i % 6))})
			call.Kids = append(call.Kids, lit(byte(i%6), 7))
		}
		f.Kids = append(f.Kids, block())
		n := prog(f, mainOf(call))
		if count > api.MaxArgs {
			wrong(t, fmt.Sprintf("%d parameters", count), n, 1, api.ErrForm)
			continue
		}
		i := right(t, fmt.Sprintf("%d parameters", count), n)
		if i.Fns[0].Params != count || len(i.Fns[0].Locals) != count || i.Fns[0].Int != api.U16 || i.Fns[1].Node != count+3 {
			t.Errorf("%d parameters: %v", count, i.Fns)
		}
		for p := range count {
			if i.Binds[2+p] != (Bind{ToLocal, p, 0}) || i.Fns[0].Locals[p] != (Local{Type: whole(byte(p % 6)), Cells: 1}) {
				t.Errorf("parameter %d: %v", p, i)
			}
		}
	}
}

// Arrays of the least and the greatest length, and one beyond.
func TestArrays(t *testing.T) {
	for _, r := range []struct {
		length string
		cells  int
	}{{"0i32", 0}, {"1i32", 1}, {"2i32", 2}, {"15i32", 15}, {"16i32", 16}, {"17i32", 0}, {"2147483647i32", 0}} {
		for i, s := range []string{"u16 a[%s]; i32 main() { }", "i32 main() { u16 a[%s]; }"} {
			n := read(t, fmt.Sprintf(s, r.length))
			if r.cells == 0 {
				wrong(t, s, n, placeOf(n), api.ErrForm)
				continue
			}
			k := right(t, s, n)
			if all := [][]Local{k.Globals, k.Fns[0].Locals}; len(all[i]) != 1 || len(all[1-i]) != 0 || all[i][0] != (Local{Type: array(api.U16, r.cells), Cells: r.cells}) {
				t.Errorf("%s of %s: %v", s, r.length, k)
			}
		}
	}
}

// Loops: their first and last numbers.
func TestLoops(t *testing.T) {
	const most = 1<<31 - 1
	for _, r := range []struct {
		n, m int64
		e    api.Errno
	}{
		{0, 0, api.OK}, {0, 1, api.OK}, {0, 16, api.OK}, {0, 17, api.ErrArg}, {5, 21, api.OK}, {5, 22, api.ErrArg}, {5, 5, api.OK}, {1, 0, api.ErrArg}, {5, 4, api.ErrArg},
		{-1, 0, api.ErrArg}, {-1, -1, api.ErrArg}, {0, -1, api.ErrArg}, {-16, 0, api.ErrArg},
		{most, most, api.OK}, {most - 16, most, api.OK}, {most - 17, most, api.ErrArg}, {most, most + 1, api.ErrArg}, {most - 15, most + 1, api.ErrArg}, {most + 1, most + 1, api.ErrArg}, {most, most - 1, api.ErrArg},
		{math.MinInt64, math.MaxInt64, api.ErrArg}, {math.MaxInt64, math.MinInt64, api.ErrArg}, {math.MinInt64, math.MinInt64, api.ErrArg}, {math.MaxInt64, math.MaxInt64, api.ErrArg}, {math.MaxInt64 - 3, math.MaxInt64, api.ErrArg},
		{0, math.MaxInt64, api.ErrArg}, {math.MinInt64, 0, api.ErrArg}, {1 << 32, 1<<32 + 1, api.ErrArg}, {0, 1 << 32, api.ErrArg},
	} {
		n := prog(mainOf(api.Node{Kind: api.For, Name: "i", N: r.n, M: r.m, Kids: []api.Node{block()}}))
		what := fmt.Sprintf("for %d to %d", r.n, r.m)
		if r.e == api.OK {
			if i := right(t, what, n); len(i.Fns[0].Locals) != 1 || i.Fns[0].Locals[0] != (Local{Type: whole(api.I32), Cells: 1, Loop: true}) {
				t.Errorf("%s: %v", what, i)
			}
			continue
		}
		wrong(t, what, n, 3, r.e)
		// The form goes ahead of the numbers, the numbers ahead of the Block.
		wrong(t, what+" without a name", changed(n, map[int]change{3: name("")}), 3, api.ErrForm)
		wrong(t, what+" without a Block", changed(n, map[int]change{3: kids(0)}), 3, api.ErrForm)
		wrong(t, what+" with a Lit", changed(n, map[int]change{4: become(lit(api.I32, 1))}), 3, api.ErrArg)
	}
	judge(t, []verdict{
		{"i32 main() { for i = 0i32 to 2i32 { i = 1i32; } }", 6, api.ErrType},
		{"u8 f(i32 *p) { } i32 main() { for i = 0i32 to 2i32 { f(&i); } }", 10, api.ErrType},
		{"i32 f() { } i32 main() { for i = 0i32 to 2i32 { i = f(); } }", 8, api.ErrType},
		{"i32 main() { for i = 0i32 to 2i32 { i32 i; i = 1i32; } }", 0, api.OK},
		{"i32 main() { for i = 0i32 to 2i32 { print(i); if (i) { print(i + 1i32); } } }", 0, api.OK},
		{"i32 main() { for i = 0i32 to 2i32 { for i = 1i32 to 2i32 { print(i); } } }", 0, api.OK},
		{"i32 main() { for i = 0i32 to 2i32 { } print(i); }", 6, api.ErrName},
		{"i32 main() { for i = 0i32 to 2i32 { } i = 1i32; }", 6, api.ErrName},
		{"i32 main() { i32 i; for i = 0i32 to 2i32 { } i = 1i32; }", 0, api.OK},
		{"i32 main() { for i = 0i32 to 2i32 { u8 a[3i32]; a[i] = 1u8; } }", 0, api.OK},
		{"i32 main() { for i = 0i32 to 2i32 { print(i + 1u8); } }", 8, api.ErrType},
	})
}

// Scopes: which variable a name stands for.
func TestScopes(t *testing.T) {
	judge(t, []verdict{
		{"i32 main() { i32 x; i32 x; }", 4, api.ErrTwice},
		{"i32 main() { i32 x; i32 y; u8 x[2i32]; }", 5, api.ErrTwice},
		{"i32 main() { i32 x; if (x) { i32 x; u8 x; } }", 8, api.ErrTwice},
		{"i32 main() { i32 x; if (x) { u8 x; print(x + 1u8); } print(x + 1i32); }", 0, api.OK},
		{"i32 main() { if (1u8) { i32 x; } else { u8 x; } i16 x; }", 0, api.OK},
		{"i32 main() { if (1u8) { i32 x; } else { print(x); } }", 9, api.ErrName},
		{"i32 main() { if (1u8) { i32 x; } print(x); }", 8, api.ErrName},
		{"i32 main() { print(x); i32 x; }", 4, api.ErrName},
		{"i32 main() { i32 x = x; }", 4, api.ErrName},
		{"i32 main() { i32 x = 1i32 + x; }", 6, api.ErrName},
		{"u8 f(u8 x) { u8 x = x; return x; } i32 main() { }", 0, api.OK},
		{"u8 f(u8 x) { i8 x = x; } i32 main() { }", 5, api.ErrType},
		{"u8 x; i32 main() { u8 x = x; i8 y = x; }", 7, api.ErrType},
		{"u8 x; i32 main() { i8 x = 1i8; i8 y = x; }", 0, api.OK},
		{"i32 main() { print(x); } ", 4, api.ErrName},
		{"u8 f() { return x; } u8 x; i32 main() { return x; }", 4, api.ErrName},
		{"u8 f() { return 1u8; } u8 x; i32 main() { print(x); }", 0, api.OK},
		{"u8 f(u8 p) { } i32 main() { print(p); }", 7, api.ErrName},
		{"u8 f() { u8 p; } i32 main() { print(p); }", 7, api.ErrName},
		{"u8 f() { } i32 main() { print(f); }", 6, api.ErrName},
		{"u8 f() { } i32 main() { f = 1u8; }", 6, api.ErrName},
		{"u8 f() { } i32 main() { print(main); }", 6, api.ErrName},
		{"struct s { u8 a; } i32 main() { print(s.a); }", 6, api.ErrName},
		{"struct s { u8 a; } i32 main() { print(a); }", 6, api.ErrName},
	})
	n := read(t, "u8 x; u8 f(u8 y, u8 x) { print(x); u8 x; print(x); if (x) { u8 x = x; print(x); for x = 0i32 to 1i32 { print(x); u8 x; print(x); } print(x); } print(x); } i32 main() { print(x); }")
	i := right(t, "one name in all scopes", n)
	var binds []Bind
	for id, m := range nodes(&n) {
		if m.Kind == api.Var {
			binds = append(binds, i.Binds[id])
		}
	}
	want := []Bind{{ToLocal, 1, 0}, {ToLocal, 2, 0}, {ToLocal, 2, 0}, {ToLocal, 2, 0}, {ToLocal, 3, 0}, {ToLocal, 4, 0}, {ToLocal, 5, 0}, {ToLocal, 3, 0}, {ToLocal, 2, 0}, {ToGlobal, 0, 0}}
	if !slices.Equal(binds, want) {
		t.Errorf("Binds %v; want %v", binds, want)
	}
	if l := i.Fns[0].Locals; len(l) != 6 || !l[4].Loop || l[3].Loop || l[5].Loop {
		t.Errorf("Locals %v", i.Fns[0].Locals)
	}
}

// Variables that are read or written: of which kind they are.
func TestVariables(t *testing.T) {
	head := "struct s { u8 a; } u8 v; u8 w[2i32]; struct s r; u8 f(u8 *p) { "
	for use, declared := range map[string]string{"v": "v", "w[0u8]": "w", "r.a": "r", "*p": "p"} {
		for _, name := range strings.Fields("v w r p") {
			text := strings.Replace(use, declared, name, 1)
			e := api.ErrType
			if name == declared {
				e = api.OK
			}
			judge(t, []verdict{
				{head + "print(" + text + "); } i32 main() { }", 10, e},
				{head + text + " = 1u8; } i32 main() { }", 10, e},
				{head + "} u8 g(u8 *p) { f(&" + text + "); } i32 main() { }", 14, e},
				{head + "} u8 g(u8 *p) { " + text + " = f(&*p); } i32 main() { }", 13, e},
			})
		}
	}
	judge(t, []verdict{
		// The array goes ahead of its place, the place can be of any type.
		{"i32 main() { print(a[b]); }", 4, api.ErrName},
		{"u8 a; i32 main() { print(a[b]); }", 5, api.ErrType},
		{"u8 a[2i32]; i32 main() { print(a[b]); }", 6, api.ErrName},
		{"u8 a[2i32]; i32 main() { print(a[a]); }", 6, api.ErrType},
		{"u8 a[2i32]; i32 main() { a[a[1i8]] = a[a[2u32]]; print(a[1i32 < 2i32]); }", 0, api.OK},
		{"u8 a[2i32]; i32 main() { for i = 0i32 to 2i32 { a[i] = 1u8; } }", 0, api.OK},
	})
}

// Statements with an expression: of which type it is.
func TestStatements(t *testing.T) {
	words := strings.Fields("i8 u8 i16 u16 i32 u32")
	for i, a := range words {
		for j, b := range words {
			e := api.ErrType
			if i == j {
				e = api.OK
			}
			judge(t, []verdict{
				{a + " g = 1" + b + "; i32 main() { }", 2, e},
				{"i32 main() { " + a + " x = 1" + b + "; }", 4, e},
				{"i32 main() { " + a + " x; x = 1" + b + "; }", 6, e},
				{a + " x[1i32]; i32 main() { x[1u8] = 1" + b + "; }", 7, e},
				{"struct s { " + a + " m; } struct s x; i32 main() { x.m = 1" + b + "; }", 8, e},
				{"u8 f(" + a + " *p) { *p = 1" + b + "; } i32 main() { }", 6, e},
				{a + " f() { return 1" + b + "; } i32 main() { }", 4, e},
				{a + " f() { } i32 main() { " + b + " x; x = f(); }", 7, e},
				{"u8 f(" + a + " p) { } i32 main() { f(1" + b + "); }", 7, e},
				{"u8 f(" + a + " *p) { } i32 main() { " + b + " x; f(&x); }", 8, e},
				{"u8 f(" + a + " *p) { } u8 g(" + b + " *q) { f(&*q); } i32 main() { }", 8, e},
				{"i32 main() { print(1u8 ? 1" + a + " : 1" + b + "); }", 7, e},
				{"i32 main() { print((" + a + ")1" + b + "); if (1" + a + ") { } else { } print(1" + b + "); }", 0, api.OK},
			})
		}
	}
	judge(t, []verdict{{"i32 main() { return 1u32; }", 4, api.ErrType}, {"i32 main() { if (1u8) { return 1i16; } }", 7, api.ErrType}})
}

// Calls: which functions, with which arguments.
func TestCalls(t *testing.T) {
	judge(t, []verdict{
		{"i32 main() { f(); }", 3, api.ErrName},
		{"i32 main() { main(); }", 3, api.ErrCall},
		{"u8 f() { f(); } i32 main() { }", 3, api.ErrCall},
		{"u8 f() { g(); } u8 g() { } i32 main() { }", 3, api.ErrCall},
		{"u8 f() { main(); } i32 main() { }", 3, api.ErrCall},
		{"u8 f() { } u8 g() { f(); } i32 main() { f(); g(); f(); }", 0, api.OK},
		{"u8 v; i32 main() { v(); }", 4, api.ErrName},
		{"i32 main() { u8 v; v(); }", 4, api.ErrName},
		{"u8 f(u8 p) { p(); } i32 main() { }", 4, api.ErrName},
		{"u8 f() { } i32 main() { u8 f; f(); f = f(); }", 0, api.OK},
		{"u8 f() { } i32 main() { x = f(); }", 6, api.ErrName},
		{"u8 f() { } i32 main() { i8 x; x = f(); }", 7, api.ErrType},
		{"u8 f() { } i32 main() { u8 x; x = f(); }", 0, api.OK},
		{"u8 f() { } i32 main() { f(1u8); }", 5, api.ErrForm},
		{"u8 f(u8 a) { } i32 main() { f(); }", 6, api.ErrForm},
		{"u8 f(u8 a) { } i32 main() { u8 x; x = f(); }", 7, api.ErrForm},
		{"u8 f() { } i32 main() { u8 x; x = f(x); }", 6, api.ErrForm},
		{"u8 f(u8 a, i8 b) { } i32 main() { f(1u8, 1u8); }", 9, api.ErrType},
		{"u8 f(u8 a, i8 b) { } i32 main() { f(1i8, 1u8); }", 8, api.ErrType},
		{"u8 f(u8 a, i8 b) { } i32 main() { f(1u8, 1i8); }", 0, api.OK},
		{"u8 f(u8 *a) { } i32 main() { u8 x; f(x); }", 8, api.ErrType},
		{"u8 f(u8 a) { } i32 main() { u8 x; f(&x); }", 8, api.ErrType},
		{"u8 f(u8 *a) { } i32 main() { f(1u8); }", 7, api.ErrType},
		{"u8 f(u8 *a) { } i32 main() { u8 x; f(&x); }", 0, api.OK},
		{"u8 f(u8 *a) { } i32 main() { i8 x; f(&x); }", 8, api.ErrType},
		{"u8 f(u8 *a) { } i32 main() { f(&x); }", 8, api.ErrName},
		{"u8 f(u8 *a) { } u8 x[3i32]; i32 main() { f(&x[2i16]); }", 0, api.OK},
		{"u8 f(u8 *a) { } u8 x[3i32]; i32 main() { f(&x); }", 9, api.ErrType},
		{"u8 f(u8 *a) { } u8 x[3i32]; i32 main() { f(&x[y]); }", 10, api.ErrName},
		{"u8 f(u8 *a) { } u8 g(u8 *b) { f(&*b); f(&b); } i32 main() { }", 12, api.ErrType},
		{"u8 f(u8 *a) { f(&*a); } i32 main() { }", 4, api.ErrCall},
	})
	base := sampled(t)
	for _, v := range []int64{-1, 2, 3, math.MinInt64, math.MaxInt64, 1 << 32, 1<<32 + 1} {
		for _, id := range []int{56, 60} {
			wrong(t, fmt.Sprintf("a Call with N %d", v), changed(base, map[int]change{id: first(v)}), id, api.ErrForm)
			wrong(t, fmt.Sprintf("a Call of nothing with N %d", v), changed(base, map[int]change{id: func(n *api.Node) { n.N, n.Name = v, "none" }}), id, api.ErrForm)
		}
	}
	judgeSpoilt(t, []spoilt{
		{map[int]change{56: first(1)}, 56, api.ErrForm}, // its two kids are one argument and what takes the answer
		{map[int]change{60: first(0)}, 60, api.ErrForm},
		{map[int]change{60: kids(0)}, 60, api.ErrForm},
		{map[int]change{60: func(n *api.Node) { n.Name, n.Kids = "none", nil }}, 60, api.ErrForm},
		{map[int]change{56: func(n *api.Node) { n.Name, n.Kids = "none", nil }}, 56, api.ErrName},
		{map[int]change{60: func(n *api.Node) { n.Name, n.Kids = "main", nil }}, 60, api.ErrForm},
		{map[int]change{56: func(n *api.Node) { n.Name, n.Kids = "main", nil }}, 56, api.ErrCall},
		{map[int]change{58: kids(0)}, 58, api.ErrForm},
		{map[int]change{58: kids(2)}, 58, api.ErrForm},
		{map[int]change{63: kids(0)}, 63, api.ErrForm},
		{map[int]change{57: become(api.Node{Kind: api.Ref})}, 57, api.ErrType},
		{map[int]change{57: become(api.Node{Kind: api.Ref, Kids: []api.Node{{Kind: api.Var, Name: "v"}}})}, 57, api.ErrType},
		{map[int]change{61: become(api.Node{Kind: api.Ref, Kids: []api.Node{{Kind: api.Var, Name: "v"}}})}, 61, api.ErrForm},
		{map[int]change{59: become(lit(api.U8, 1))}, 59, api.ErrForm},
		{map[int]change{59: become(api.Node{Kind: api.Ref, Kids: []api.Node{{Kind: api.Var, Name: "w"}}})}, 59, api.ErrForm},
	})
	// A function that stands behind has the name that it has, be it one or not.
	odd := prog(api.Node{Kind: api.Func, Name: "f", Type: whole(api.U8), Kids: []api.Node{block(api.Node{Kind: api.Call, Name: "A b"})}}, api.Node{Kind: api.Func, Name: "A b"}, mainOf())
	wrong(t, "a call of what is no name", odd, 3, api.ErrCall)
	odd.Kids[1].Kind = api.Global
	wrong(t, "a call of a global that stands behind", odd, 3, api.ErrName)
}

// Numbers: the least and the greatest of each type, and one beyond.
func TestLits(t *testing.T) {
	ends := [6][2]int64{{-128, 127}, {0, 255}, {-32768, 32767}, {0, 65535}, {-2147483648, 2147483647}, {0, 4294967295}}
	for i, end := range ends {
		for _, v := range []int64{0, 1, -1, end[0], end[0] + 1, end[1] - 1, end[1], end[0] - 1, end[1] + 1, math.MinInt64, math.MaxInt64, 1 << 32, -1 << 32} {
			fits := end[0] <= v && v <= end[1]
			l := lit(byte(i), v)
			for _, r := range []struct {
				n  api.Node
				at int
			}{
				{prog(mainOf(api.Node{Kind: api.Print, Kids: []api.Node{l}})), 4},
				{prog(api.Node{Kind: api.Global, Name: "g", Type: whole(byte(i)), Kids: []api.Node{l}}, mainOf()), 2},
				{prog(mainOf(api.Node{Kind: api.Let, Name: "x", Type: whole(byte(i)), Kids: []api.Node{l}})), 4},
			} {
				what := fmt.Sprintf("%d of %d", v, i)
				if !fits {
					wrong(t, what, r.n, r.at, api.ErrForm)
				} else if k := right(t, what, r.n); k.Ints[r.at] != byte(i) {
					t.Errorf("%s: %d", what, k.Ints[r.at])
				}
			}
		}
	}
}

// Operations of one number and of two: which there are, of which types, and what type comes of them.
func TestOperations(t *testing.T) {
	for o := range 256 {
		for a := range 6 {
			n := prog(mainOf(api.Node{Kind: api.Print, Kids: []api.Node{{Kind: api.Unary, Op: byte(o), Kids: []api.Node{lit(byte(a), 1)}}}}))
			what := fmt.Sprintf("the operation %d of %d", o, a)
			if o < 1 || o > 3 {
				wrong(t, what, n, 4, api.ErrForm)
			} else if i := right(t, what, n); o < 3 && i.Ints[4] != byte(a) || o == 3 && i.Ints[4] != api.I32 {
				t.Errorf("%s has the type %d", what, i.Ints[4])
			}
			for b := range 6 {
				n.Kids[0].Kids[0].Kids[0].Kids[0] = api.Node{Kind: api.Binary, Op: byte(o), Kids: []api.Node{lit(byte(a), 1), lit(byte(b), 1)}}
				what := fmt.Sprintf("the operation %d of %d and %d", o, a, b)
				free := o == 9 || o == 10 || o == 17 || o == 18
				if o < 1 || o > 18 {
					wrong(t, what, n, 4, api.ErrForm)
				} else if a != b && !free {
					wrong(t, what, n, 6, api.ErrType)
				} else if i := right(t, what, n); o < 11 && i.Ints[4] != byte(a) || o >= 11 && i.Ints[4] != api.I32 {
					t.Errorf("%s has the type %d", what, i.Ints[4])
				}
			}
		}
	}
	judge(t, []verdict{
		{"i32 main() { print(1i32 + (1u8 < 2u8)); print(!1u8 * 2i32); print((1u8 && 2i16) - 1i32); }", 0, api.OK},
		{"i32 main() { print(1u8 + (1u8 < 2u8)); }", 6, api.ErrType},
		{"i32 main() { print((1u8 << 1i32) + 1i32); }", 8, api.ErrType},
		{"i32 main() { print((1u8 << 1i32) + 1u8); }", 0, api.OK},
		{"i32 main() { print(-1u8 + ~2u8); }", 0, api.OK},
		{"i32 main() { print(!1u8 + 1u8); }", 7, api.ErrType},
		{"i32 main() { print((u8)1i32 + 1i32); }", 7, api.ErrType},
		{"i32 main() { print(1i8 ? 1u8 : 2u8); print((1i8 ? 1u8 : 2u8) + 1u8); }", 0, api.OK},
		{"i32 main() { print((1i8 ? 1u8 : 2u8) + 1i8); }", 9, api.ErrType},
		{"i32 main() { print(1i8 ? 1u8 : 2i8); }", 7, api.ErrType},
		{"i32 main() { print(1i8 ? 1u8 : 2i8 + 1u8); }", 9, api.ErrType},
	})
}

// Two rules are broken: which goes first, and at which node it is said.
func TestOrder(t *testing.T) {
	judge(t, []verdict{
		// Items from the first on, whatever is wrong with them.
		{"u8 a[0i32]; u8 b[0i32]; i32 main() { }", 1, api.ErrForm},
		{"u8 f() { x = 1u8; } u8 a[0i32]; i32 main() { }", 4, api.ErrName},
		{"u8 f() { return 1i8; } u8 f; i32 main() { }", 4, api.ErrType},
		{"i32 main() { return 1u8; return x; }", 4, api.ErrType},
		{"i32 main() { return x; return 1u8; }", 4, api.ErrName},
		// Of a variable: its form, its struct, its kid, its name.
		{"u8 a; u8 a[0i32]; i32 main() { }", 2, api.ErrForm},
		{"u8 a; struct s a; i32 main() { }", 2, api.ErrName},
		{"u8 a() { } struct s a; i32 main() { }", 3, api.ErrName},
		{"u8 a; u8 a = 1i8; i32 main() { }", 3, api.ErrType},
		{"u8 a() { } u8 a = 1i8; i32 main() { }", 4, api.ErrType},
		{"i32 main() { u8 a; u8 a = 1i8; }", 5, api.ErrType},
		{"i32 main() { u8 a; u8 a = b; }", 5, api.ErrName},
		{"i32 main() { u8 a; u8 a = a; }", 4, api.ErrTwice},
		{"i32 main() { u8 a; i8 a = a; }", 5, api.ErrType},
		{"i32 main() { u8 a; struct s a; }", 4, api.ErrName},
		// Of a function: its form, its name, its parameters, its Block.
		{"u8 a; u8 a(u8 p, u8 p, u8 q, u8 r, u8 s, u8 t, u8 u) { } i32 main() { }", 2, api.ErrForm},
		{"u8 a; u8 a(u8 p, u8 p) { x = 1u8; } i32 main() { }", 2, api.ErrTwice},
		{"u8 a(u8 p, u8 p) { x = 1u8; } i32 main() { }", 3, api.ErrTwice},
		// Of a Set: the variable, then the expression.
		{"i32 main() { x = y; }", 4, api.ErrName},
		{"u8 x[2i32]; i32 main() { x = y; }", 5, api.ErrType},
		{"u8 x; i32 main() { x = y; }", 6, api.ErrName},
		{"u8 x[2i32]; i32 main() { x[a] = y; }", 6, api.ErrName},
		{"u8 x; i32 main() { x = 1i8 + y; }", 8, api.ErrName},
		{"u8 x; i32 main() { x = 1i8 + 1u8; }", 8, api.ErrType},
		{"u8 x; i32 main() { x = 1i8 + 1i8; }", 6, api.ErrType},
		// Of an If: the expression, the first Block, the second.
		{"i32 main() { if (x) { y = 1u8; } else { z = 1u8; } }", 4, api.ErrName},
		{"i32 main() { if (1u8) { return 1u8; } else { z = 1u8; } }", 7, api.ErrType},
		{"i32 main() { if (1u8) { } else { z = 1u8; } }", 8, api.ErrName},
		// Of a Call: the function, the count, what takes the answer, the arguments.
		{"i32 main() { x = f(y); }", 3, api.ErrName},
		{"i32 main() { x = main(y); }", 3, api.ErrCall},
		{"u8 f() { } i32 main() { x = f(y); }", 5, api.ErrForm},
		{"u8 f(u8 a) { } i32 main() { x = f(y); }", 7, api.ErrName},
		{"u8 f(u8 a) { } i8 x; i32 main() { x = f(y); }", 8, api.ErrType},
		{"u8 f(u8 a) { } u8 x; i32 main() { x = f(y); }", 9, api.ErrName},
		{"u8 f(u8 a, u8 *b) { } i32 main() { f(1i8, 1u8); }", 8, api.ErrType},
		{"u8 f(u8 a, u8 *b) { } i32 main() { f(x, 1u8); }", 8, api.ErrName},
		{"u8 f(u8 a, u8 *b) { } i32 main() { f(1u8 + 1i8, 1u8); }", 10, api.ErrType},
		{"u8 f(u8 a, u8 *b) { } i32 main() { f(1u8, x); }", 9, api.ErrType},
		{"u8 f(u8 a, u8 *b) { } i32 main() { f(&x, x); }", 8, api.ErrType},
		{"u8 f(u8 *a, u8 b) { } i32 main() { i8 x; f(&x, y); }", 9, api.ErrType},
		{"u8 f(u8 *a, u8 b) { } i32 main() { f(&x, y); }", 9, api.ErrName},
		{"u8 f(u8 *a) { } i32 main() { for i = 0i32 to 1i32 { f(&i); } }", 10, api.ErrType},
		// Of a variable: what its name stands for, its kind, its field, its place.
		{"u8 r; i32 main() { print(r.c); }", 5, api.ErrType},
		{"i32 main() { for i = 0i32 to 1i32 { i.c = 1u8; } }", 6, api.ErrType},
		// Of an expression: the kids from the left, then their types.
		{"i32 main() { print(x + y); }", 5, api.ErrName},
		{"i32 main() { print(1u8 + y); }", 6, api.ErrName},
		{"i32 main() { print((1u8 + 1i8) + 1i8); }", 7, api.ErrType},
		{"i32 main() { print(1u8 + (1i8 + x)); }", 8, api.ErrName},
		{"i32 main() { print(x ? y : z); }", 5, api.ErrName},
		{"i32 main() { print(1u8 ? 1u8 : z + 1i8); }", 8, api.ErrName},
		{"i32 main() { print(1u8 ? 1u8 + 1i8 : z); }", 8, api.ErrType},
	})
	v := func(name string) api.Node { return api.Node{Kind: api.Var, Name: name} }
	bad := api.Type{Kind: api.TInt, Int: 9}
	judgeSpoilt(t, []spoilt{
		// The form of a node goes ahead of its kids.
		{map[int]change{1: kids(9), 2: name("")}, 1, api.ErrForm},
		{map[int]change{2: name("b"), 3: kind(api.Let)}, 3, api.ErrForm},
		{map[int]change{2: name("b"), 3: typed(bad)}, 3, api.ErrForm},
		{map[int]change{4: typed(bad), 5: become(v("g"))}, 4, api.ErrForm},
		{map[int]change{4: field("s"), 5: typed(whole(api.I8))}, 4, api.ErrForm},
		{map[int]change{8: typed(bad), 9: name("q"), 11: kind(api.Let)}, 8, api.ErrForm},
		{map[int]change{8: name("g"), 9: name("q"), 10: kind(api.Let)}, 8, api.ErrTwice},
		{map[int]change{9: name("q"), 10: kids(1)}, 10, api.ErrForm},
		{map[int]change{9: name("q"), 11: kind(api.Let)}, 10, api.ErrTwice},
		{map[int]change{10: typed(bad), 11: kind(api.Let)}, 10, api.ErrForm},
		{map[int]change{12: field("s"), 14: name("none")}, 12, api.ErrForm},
		{map[int]change{13: op(19), 14: name("none")}, 13, api.ErrForm},
		{map[int]change{18: kids(3), 19: name("none")}, 18, api.ErrForm},
		{map[int]change{20: op(0), 21: name("none")}, 20, api.ErrForm},
		{map[int]change{23: kids(2), 22: kids(3)}, 22, api.ErrForm},
		{map[int]change{23: func(n *api.Node) { n.Name, n.Kids = "none", nil }}, 23, api.ErrForm},
		{map[int]change{23: name("x"), 24: name("none")}, 23, api.ErrType},
		{map[int]change{28: func(n *api.Node) { n.Name, n.Field = "none", "A" }}, 28, api.ErrForm},
		{map[int]change{28: func(n *api.Node) { n.Name, n.Field = "none", "c" }}, 28, api.ErrName},
		{map[int]change{28: func(n *api.Node) { n.Name, n.Field = "x", "c" }}, 28, api.ErrType},
		{map[int]change{19: func(n *api.Node) { n.Name, n.Kids = "none", []api.Node{{}} }}, 19, api.ErrForm},
		{map[int]change{31: func(n *api.Node) { n.Name, n.Kids = "x", []api.Node{{}} }}, 31, api.ErrForm},
		{map[int]change{33: kids(1), 35: name("none")}, 33, api.ErrForm},
		{map[int]change{36: name("none"), 37: kind(api.Let)}, 36, api.ErrName},
		{map[int]change{37: kind(api.Let), 39: name("none")}, 37, api.ErrForm},
		{map[int]change{38: kids(2), 40: kind(api.Let)}, 38, api.ErrForm},
		{map[int]change{40: kind(api.Let), 43: last(17)}, 40, api.ErrForm},
		{map[int]change{43: func(n *api.Node) { n.Name, n.M = "A", 17 }}, 43, api.ErrForm},
		{map[int]change{43: last(17), 44: kind(api.Let)}, 43, api.ErrArg},
		{map[int]change{44: kind(api.Let), 46: name("none")}, 44, api.ErrForm},
		{map[int]change{47: kids(2), 49: name("none")}, 47, api.ErrForm},
		{map[int]change{48: kids(2), 49: name("none")}, 48, api.ErrForm},
		{map[int]change{65: kids(0), 54: field("s")}, 54, api.ErrForm},
		{map[int]change{66: typed(bad), 67: name("none")}, 66, api.ErrForm},
		// That of a Call comes behind its function, those of its kids behind that.
		{map[int]change{56: func(n *api.Node) { n.N, n.Name = 2, "none" }}, 56, api.ErrForm},
		{map[int]change{56: func(n *api.Node) { n.Name, n.Kids = "none", n.Kids[:1] }}, 56, api.ErrName},
		{map[int]change{56: func(n *api.Node) { n.Name, n.Kids = "main", n.Kids[:1] }}, 56, api.ErrCall},
		{map[int]change{56: kids(1), 57: typed(bad)}, 56, api.ErrForm},
		{map[int]change{60: kids(2), 61: name("none")}, 60, api.ErrForm},
		{map[int]change{61: name("w"), 62: become(api.Node{Kind: api.Ref})}, 61, api.ErrType},
		{map[int]change{61: kind(api.Lit), 62: become(api.Node{Kind: api.Ref})}, 61, api.ErrForm},
		{map[int]change{62: name("w"), 63: kids(0)}, 62, api.ErrType},
		{map[int]change{63: kids(2), 64: name("none")}, 63, api.ErrForm},
		{map[int]change{63: kind(api.Lit), 64: name("none")}, 63, api.ErrType},
		{map[int]change{57: become(api.Node{Kind: api.Ref}), 58: kids(0)}, 57, api.ErrType},
		{map[int]change{59: name("v")}, 58, api.ErrType},
		{map[int]change{64: name("h")}, 64, api.ErrType},
	})
}

// printed: a Print of a number below so many Unarys.
func printed(unarys int) api.Node {
	n := lit(api.U8, 1)
	for range unarys {
		n = api.Node{Kind: api.Unary, Op: api.Not, Kids: []api.Node{n}}
	}
	return api.Node{Kind: api.Print, Kids: []api.Node{n}}
}

// grown: a program that is right, of a size and a depth, which is 6 at least.
func grown(size, depth int) api.Node {
	var stats []api.Node
	rest := size - depth
	if rest%2 == 1 {
		stats = append(stats, printed(1))
		rest -= 3
	}
	for range rest / 2 {
		stats = append(stats, printed(0))
	}
	return prog(mainOf(append(stats, printed(depth-5))...))
}

// ring: a tree without an end.
func ring() api.Node {
	kids := make([]api.Node, 1)
	kids[0] = api.Node{Kind: api.Prog, Kids: kids}
	return kids[0]
}

// Trees at the limits, and one beyond: what isn't fine is told as such, whatever else is wrong.
func TestLimits(t *testing.T) {
	for _, r := range []struct {
		size, depth int
		e           api.Errno
	}{
		{api.MaxNodes, 6, api.OK}, {api.MaxNodes - 1, 6, api.OK}, {api.MaxNodes + 1, 6, api.ErrLong}, {2 * api.MaxNodes, 6, api.ErrLong},
		{100, api.MaxDepth, api.OK}, {100, api.MaxDepth - 1, api.OK}, {100, api.MaxDepth + 1, api.ErrLong}, {100, api.MaxDepth + 5, api.ErrLong},
		{api.MaxNodes, api.MaxDepth, api.OK}, {api.MaxNodes + 1, api.MaxDepth, api.ErrLong}, {api.MaxNodes, api.MaxDepth + 1, api.ErrLong},
	} {
		n := grown(r.size, r.depth)
		what := fmt.Sprintf("%d nodes, %d deep", r.size, r.depth)
		if s, d := tree.Size(n), tree.Depth(n); s != min(r.size, api.MaxNodes+1) || d != min(r.depth, api.MaxDepth+1) {
			t.Fatalf("%s: %d, %d", what, s, d)
		}
		broken := n
		broken.Kind = api.Let
		if r.e == api.OK {
			right(t, what, n)
			wrong(t, what+", broken", broken, 0, api.ErrForm)
			continue
		}
		wrong(t, what, n, 0, r.e)
		wrong(t, what+", broken", broken, 0, r.e)
	}
	wrong(t, "a ring", ring(), 0, api.ErrLong)
	// The last node of a tree as great as may be is asked, too.
	n := grown(api.MaxNodes, api.MaxDepth)
	wrong(t, "the last node", changed(n, map[int]change{api.MaxNodes - 1: first(256)}), api.MaxNodes-1, api.ErrForm)
}

// spare gives all lists of a tree spare room with nodes in it.
func spare(n api.Node) api.Node {
	list := make([]api.Node, 0, len(n.Kids)+2)
	for _, kid := range n.Kids {
		list = append(list, spare(kid))
	}
	n.Kids = list
	room := list[:cap(list)]
	for i := len(list); i < len(room); i++ {
		room[i] = api.Node{Kind: 77, Name: "room"}
	}
	return n
}

// told tells a tree with the spare room of its lists.
func told(n api.Node) string {
	s := fmt.Sprintf("<%d %d %v %d %d %q %q %d", n.Kind, n.Op, n.Type, n.N, n.M, n.Name, n.Field, len(n.Kids))
	for _, kid := range n.Kids[:cap(n.Kids)] {
		s += told(kid)
	}
	return s + ">"
}

// ruin writes over all memory of a tree.
func ruin(n *api.Node) {
	for i := range n.Kids[:cap(n.Kids)] {
		ruin(&n.Kids[:cap(n.Kids)][i])
	}
	*n = api.Node{Kind: 99, Name: "ruined"}
}

// Memory: what is handed in isn't changed, nor kept; P2: the same program is told the same.
func TestArguments(t *testing.T) {
	base := sampled(t)
	want := right(t, "the sample", base)
	for id := range tree.Size(base) {
		n := spare(changed(base, map[int]change{id: name("none")}))
		before := told(n)
		i, at, e := Resolve(n)
		j, again, f := Resolve(n)
		if c, g := Check(n); c != at || g != e || again != at || f != e || !reflect.DeepEqual(i, j) {
			t.Errorf("another answer at %d", id)
		}
		if told(n) != before {
			t.Errorf("an argument is changed at %d", id)
		}
	}
	n := spare(base)
	i, _, _ := Resolve(n)
	ruin(&n)
	if !reflect.DeepEqual(i, want) {
		t.Error("an argument is kept")
	}
	if j, _, _ := Resolve(base); !reflect.DeepEqual(j, want) {
		t.Error("another answer behind others")
	}
}

// lists: what writes over one list of an answer, spare room too.
func lists(i *Info) []func() {
	all := []func(){
		func() { fill(i.Ints, 99) },
		func() { fill(i.Binds, Bind{9, 99, 99}) },
		func() { fill(i.Globals, Local{Cells: 99}) },
	}
	for f := range i.Fns {
		locals := i.Fns[f].Locals
		all = append(all, func() { fill(locals, Local{Cells: 98}) })
	}
	return append(all, func() { fill(i.Fns, Fn{Node: 99}) })
}

func fill[T any](list []T, v T) {
	for i := range list[:cap(list)] {
		list[:cap(list)][i] = v
	}
}

// parts: the lists of an answer, each told apart.
func parts(i Info) []string {
	all := []string{fmt.Sprint(i.Ints), fmt.Sprint(i.Binds), fmt.Sprint(i.Globals)}
	var heads []Fn
	for _, f := range i.Fns {
		all = append(all, fmt.Sprint(f.Locals))
		f.Locals = nil
		heads = append(heads, f)
	}
	return append(all, fmt.Sprint(heads))
}

// Memory: an answer shares none with an earlier one, nor one of its lists with another.
func TestAnswersAreNew(t *testing.T) {
	n := sampled(t)
	first, _, _ := Resolve(n)
	second, _, _ := Resolve(n)
	want := parts(second)
	if count := len(lists(&second)); count != len(want) || count != 6 {
		t.Fatalf("%d lists", count)
	}
	for _, write := range lists(&first) {
		write()
	}
	third, _, _ := Resolve(n)
	if !slices.Equal(parts(second), want) || !slices.Equal(parts(third), want) {
		t.Error("two answers share memory")
	}
	for one, write := range lists(&third) {
		fresh, _, _ := Resolve(n)
		if one < len(want)-1 { // the heads of the functions hold their lists: they are written over last
			write()
			for other, text := range parts(third) {
				if other > one && text != want[other] {
					t.Errorf("the lists %d and %d share memory", one, other)
				}
			}
		}
		if !slices.Equal(parts(fresh), want) {
			t.Error("an answer shares memory with a later one")
		}
	}
	fourth, _, _ := Resolve(n)
	for one := len(want) - 2; one >= 0; one-- {
		lists(&fourth)[one]()
		for other, text := range parts(fourth) {
			if other < one && text != want[other] {
				t.Errorf("the lists %d and %d share memory", one, other)
			}
		}
	}
}

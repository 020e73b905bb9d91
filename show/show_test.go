package show_test

import (
	"fmt"
	"math/rand"
	"slices"
	"strings"
	"testing"

	"burin/api"
	"burin/lex"
	"burin/parse"
	"burin/show"
	"burin/tree"
)

// The signature that the chapter lists.
var _ func(api.Node) (string, api.Errno) = show.Text

func node(kind byte, kids ...api.Node) api.Node { return api.Node{Kind: kind, Kids: kids} }

func lit(t byte, v int64) api.Node { return api.Node{Kind: api.Lit, Type: api.Type{Int: t}, N: v} }

func variable(name string) api.Node { return api.Node{Kind: api.Var, Name: name} }

func binary(op byte, a, b api.Node) api.Node {
	return api.Node{Kind: api.Binary, Op: op, Kids: []api.Node{a, b}}
}

func unary(op byte, a api.Node) api.Node {
	return api.Node{Kind: api.Unary, Op: op, Kids: []api.Node{a}}
}

func index(name string, place api.Node) api.Node {
	return api.Node{Kind: api.Index, Name: name, Kids: []api.Node{place}}
}

func cast(t byte, a api.Node) api.Node {
	return api.Node{Kind: api.Cast, Type: api.Type{Int: t}, Kids: []api.Node{a}}
}

// body: a program whose only function has these statements.
func body(stats ...api.Node) api.Node {
	return node(api.Prog, api.Node{Kind: api.Func, Type: api.Type{Int: api.I32}, Name: "f", Kids: []api.Node{node(api.Block, stats...)}})
}

func global(name string) api.Node {
	return api.Node{Kind: api.Global, Type: api.Type{Int: api.U8}, Name: name}
}

func told(n api.Node) string { return fmt.Sprintf("%+v", n) }

// readAgain asks for a text that is read as n, and answers it.
func readAgain(t *testing.T, n api.Node) string {
	t.Helper()
	s, e := show.Text(n)
	m, at, f := parse.Parse(s)
	if e != api.OK || f != api.OK || !tree.Same(m, n) {
		t.Errorf("Text(%.500s) = %.500q, %d; Parse: %d at %d", told(n), s, e, f, at)
	}
	if len(s) > api.MaxSource {
		t.Errorf("%d bytes", len(s))
	}
	return s
}

func refuse(t *testing.T, what string, n api.Node, want api.Errno) {
	t.Helper()
	if s, e := show.Text(n); e != want || s != "" {
		t.Errorf("%s: Text = %.100q, %d; want %d", what, s, e, want)
	}
}

func parsed(t *testing.T, s string) api.Node {
	t.Helper()
	n, at, e := parse.Parse(s)
	if e != api.OK {
		t.Fatalf("Parse(%q): %d at %d", s, e, at)
	}
	return n
}

// The chapter's examples.
func TestExamples(t *testing.T) {
	readAgain(t, parsed(t, "i32 main() { print(1i32 + 2i32 * 3i32); return 0i32; }"))
	refuse(t, "a Lit", lit(api.I32, 5), api.ErrForm)
	refuse(t, "a Lit of nothing", api.Node{Kind: api.Lit}, api.ErrForm)
	refuse(t, "a Prog with a Lit", node(api.Prog, lit(api.I32, 5)), api.ErrForm)
	s := readAgain(t, body(node(api.Ret, lit(api.I8, -5))))
	if !strings.Contains(s, "#-5i8") {
		t.Error(s)
	}
	if s, e := show.Text(node(api.Prog)); s != "" || e != api.OK {
		t.Errorf("Text of an empty program = %q, %d", s, e)
	}
}

// forms has all forms of the grammar, each of its choices.
const forms = `
struct a { u8 b; i16 c; u16 d; } struct b { } struct a c;
i8 ga; u8 gb[3i32]; i16 gc = 5i8; u16 gd = #-5i32; u32 ge[2147483647i32]; i32 gf[0i32];
i8 f() { } u8 g(i16 a) { } u32 h(i8 *a, i32 b, u16 *c) { }
i32 main() {
	i32 x; u16 y[3i32]; u8 z = a + 1u8; struct a w; i16 v = a ? b : c;
	if (a) { } if (a < b) { a = b; } else { b = a; } if (a) { if (b) { } else { } }
	for i = 0i32 to 3i32 { f(); } for j = 2147483647i32 to 0i32 { }
	print(a); return a; return #-5i8; return 5i8; return -5i8; return (u8)a; return ~a; return (a + b) * c;
	g(); g(a); g(&a, b, &c[1u8], &d.e, &*p, a ? b : c);
	x = g(); x[a] = g(a); x.y = g(&a); *p = g(*p, *q * *p);
	x = a; x[a[b]] = c[d]; x.y = z.w; *p = *q;
	a = b ? c : d; a = b ? c ? d : e : f ? g : h; a = (b ? c : d) ? e : f;
	a = -b; a = ~!(u8)-b; a = (i32)(b * (c + *d)); a = -(b ? c : d); a = (i8)(u8)(i16)(u16)(i32)(u32)b;
	a = b || c && d | e ^ f & g == h != i < j <= k > l >= m << n >> o + p - q * r / s % t;
	a = b * (c % (d - (e >> (f >= (g != (h & (i ^ (j | (k && (l || m))))))))));
}`

// P6.1, P6.2: all forms, at once and each statement alone.
func TestForms(t *testing.T) {
	n := parsed(t, forms)
	readAgain(t, n)
	for _, item := range n.Kids {
		readAgain(t, node(api.Prog, item))
	}
	block := n.Kids[len(n.Kids)-1].Kids[0]
	for _, stat := range block.Kids {
		readAgain(t, body(stat))
	}
	kinds, _ := tree.List(n)
	for kind := api.Prog; kind <= api.Ref; kind++ {
		if !slices.Contains(kinds, kind) {
			t.Errorf("no node of the kind %d", kind)
		}
	}
}

// drawing makes trees for which there is a text.
type drawing struct {
	*rand.Rand
}

func (d drawing) name() string {
	names := strings.Fields("a b x1 toto i9 u main iff abcdefgh z0000000 i8x")
	return names[d.Intn(len(names))]
}

func (d drawing) intType() api.Type { return api.Type{Int: byte(d.Intn(6))} }

// ends: the least and the greatest number of each type.
var ends = [6][2]int64{{-128, 127}, {0, 255}, {-32768, 32767}, {0, 65535}, {-2147483648, 2147483647}, {0, 4294967295}}

func (d drawing) literal() api.Node {
	t := d.Intn(6)
	low, high := ends[t][0], ends[t][1]
	v := low + d.Int63n(high-low+1)
	switch d.Intn(6) {
	case 0:
		v = low
	case 1:
		v = high
	case 2:
		v = 0
	}
	return lit(byte(t), v)
}

func (d drawing) count() int64 {
	if d.Intn(8) == 0 {
		return 1<<31 - 1
	}
	return int64(d.Intn(20))
}

func (d drawing) lvalue(depth int) api.Node {
	switch d.Intn(4) {
	case 0:
		if depth > 0 {
			return index(d.name(), d.expression(depth-1))
		}
	case 1:
		return api.Node{Kind: api.Member, Name: d.name(), Field: d.name()}
	case 2:
		return api.Node{Kind: api.Deref, Name: d.name()}
	}
	return variable(d.name())
}

func (d drawing) expression(depth int) api.Node {
	if depth <= 0 {
		if d.Intn(2) == 0 {
			return d.literal()
		}
		return d.lvalue(depth)
	}
	sub := func() api.Node { return d.expression(depth - 1 - d.Intn(2)) }
	switch d.Intn(9) {
	case 0:
		return unary(byte(1+d.Intn(3)), sub())
	case 1:
		return api.Node{Kind: api.Cast, Type: d.intType(), Kids: []api.Node{sub()}}
	case 2, 3:
		return node(api.Cond, sub(), sub(), sub())
	case 4:
		return d.lvalue(depth)
	}
	return binary(byte(1+d.Intn(18)), sub(), sub())
}

func (d drawing) variable(kind byte, depth int) api.Node {
	n := api.Node{Kind: kind, Name: d.name(), Type: d.intType()}
	switch d.Intn(4) {
	case 0:
		n.Type, n.Field = api.Type{Kind: api.TStruct}, d.name()
	case 1:
		n.Type.Kind, n.Type.N = api.TArray, int(d.count())
	case 2:
		n.Kids = []api.Node{d.literal()}
		if kind == api.Let {
			n.Kids[0] = d.expression(depth)
		}
	}
	return n
}

func (d drawing) block(depth int) api.Node {
	n := node(api.Block)
	for range d.Intn(4) {
		n.Kids = append(n.Kids, d.statement(depth))
	}
	return n
}

func (d drawing) statement(depth int) api.Node {
	switch d.Intn(8) {
	case 0:
		return node(api.Print, d.expression(depth))
	case 1:
		return node(api.Ret, d.expression(depth))
	case 2:
		return node(api.Set, d.lvalue(depth), d.expression(depth))
	case 3, 4:
		n := api.Node{Kind: api.Call, Name: d.name(), N: int64(d.Intn(2))}
		if n.N == 1 {
			n.Kids = append(n.Kids, d.lvalue(depth))
		}
		for range d.Intn(4) {
			arg := d.expression(depth)
			if d.Intn(3) == 0 {
				arg = node(api.Ref, d.lvalue(depth))
			}
			n.Kids = append(n.Kids, arg)
		}
		return n
	case 5:
		if depth > 0 {
			n := node(api.If, d.expression(depth), d.block(depth-1))
			if d.Intn(2) == 0 {
				n.Kids = append(n.Kids, d.block(depth-1))
			}
			return n
		}
	case 6:
		if depth > 0 {
			return api.Node{Kind: api.For, Name: d.name(), N: d.count(), M: d.count(), Kids: []api.Node{d.block(depth - 1)}}
		}
	}
	return d.variable(api.Let, depth)
}

func (d drawing) item(depth int) api.Node {
	switch d.Intn(4) {
	case 0:
		n := api.Node{Kind: api.Struct, Name: d.name()}
		for range d.Intn(4) {
			n.Kids = append(n.Kids, api.Node{Kind: api.Field, Type: d.intType(), Name: d.name()})
		}
		return n
	case 1:
		return d.variable(api.Global, depth)
	}
	n := api.Node{Kind: api.Func, Type: d.intType(), Name: d.name()}
	for range d.Intn(4) {
		p := api.Node{Kind: api.Param, Type: d.intType(), Name: d.name()}
		if d.Intn(2) == 0 {
			p.Type.Kind = api.TRef
		}
		n.Kids = append(n.Kids, p)
	}
	n.Kids = append(n.Kids, d.block(depth))
	return n
}

func (d drawing) program(depth int) api.Node {
	n := node(api.Prog)
	for range d.Intn(4) {
		n.Kids = append(n.Kids, d.item(depth))
	}
	return n
}

// P6.1, P6.2: drawn trees are read again as they are.
func TestDrawn(t *testing.T) {
	d := drawing{rand.New(rand.NewSource(1))}
	for range 4000 {
		n := d.program(d.Intn(6))
		if !tree.Fine(n) {
			refuse(t, "too great", n, api.ErrLong)
			continue
		}
		s := readAgain(t, n)
		if again, _ := show.Text(parsed(t, s)); again != s {
			t.Errorf("%q is told as %q", s, again)
		}
	}
}

// P6.2: what Parse reads of texts has a text that is read as the same; the texts are drawn trees' with tokens left out, doubled, or put in another's place.
func TestDrawnTexts(t *testing.T) {
	d := drawing{rand.New(rand.NewSource(6))}
	read := 0
	for range 6000 {
		tokens := strings.Fields(loosely(d.program(d.Intn(3))))
		for range d.Intn(3) {
			if len(tokens) == 0 {
				break
			}
			i, j := d.Intn(len(tokens)), d.Intn(len(tokens))
			switch d.Intn(3) {
			case 0:
				tokens = slices.Delete(tokens, i, i+1)
			case 1:
				tokens = slices.Insert(tokens, i, tokens[i])
			default:
				tokens[i] = tokens[j]
			}
		}
		if n, _, e := parse.Parse(strings.Join(tokens, " ")); e == api.OK {
			read++
			readAgain(t, n)
		}
	}
	if read < 1000 {
		t.Errorf("only %d texts were read", read)
	}
}

// without: the text with a bracket and the one that closes it made blank.
func without(s string, tokens []api.Token, i int) string {
	depth := 0
	for _, token := range tokens[i:] {
		switch token.Text {
		case "(":
			depth++
		case ")":
			depth--
		}
		if depth == 0 {
			open := tokens[i].At
			return s[:open] + " " + s[open+1:token.At] + " " + s[token.At+1:]
		}
	}
	panic(s)
}

// P6.2: no pair of brackets can be left out; and no byte of the text is a blank that needn't be.
func TestBracketsMustStand(t *testing.T) {
	d := drawing{rand.New(rand.NewSource(2))}
	check := func(n api.Node) {
		s := readAgain(t, n)
		tokens, _, _ := lex.Lex(s)
		for i, token := range tokens {
			if token.Text == "(" {
				if m, _, e := parse.Parse(without(s, tokens, i)); e == api.OK && tree.Same(m, n) {
					t.Errorf("%q has brackets at %d that needn't stand", s, token.At)
				}
			}
		}
		for i := range len(s) {
			if m, _, e := parse.Parse(s[:i] + s[i+1:]); e == api.OK && tree.Same(m, n) {
				t.Errorf("%q has a byte at %d that needn't stand", s, i)
			}
		}
	}
	check(parsed(t, forms))
	for range 400 {
		check(body(node(api.Ret, d.expression(4))))
		check(body(d.statement(2), d.statement(2)))
	}
	for op := api.Add; op <= api.LOr; op++ {
		for other := api.Add; other <= api.LOr; other++ {
			a, b, c := variable("a"), variable("b"), lit(api.I8, -5)
			check(body(node(api.Ret, binary(op, binary(other, a, b), c))))
			check(body(node(api.Ret, binary(op, a, binary(other, b, c)))))
		}
	}
}

// loosely writes any tree, whether there is a text or not: brackets about all that is an expression within one, blanks about all. Where there is a text at all this is one, too.
func loosely(n api.Node) string {
	kid := func(i int) string {
		if i >= len(n.Kids) {
			return "?"
		}
		return loosely(n.Kids[i])
	}
	all := func(list []api.Node, between string) string {
		texts := make([]string, len(list))
		for i, m := range list {
			texts[i] = loosely(m)
		}
		return strings.Join(texts, between)
	}
	word := "none"
	if n.Type.Int < 6 {
		word = strings.Fields("i8 u8 i16 u16 i32 u32")[n.Type.Int]
	}
	say := fmt.Sprintf
	switch n.Kind {
	case api.Prog:
		return all(n.Kids, " ")
	case api.Struct:
		return say("struct %s { %s }", n.Name, all(n.Kids, " "))
	case api.Field:
		return say("%s %s ;", word, n.Name)
	case api.Global, api.Let:
		switch {
		case n.Type.Kind == api.TStruct:
			return say("struct %s %s ;", n.Field, n.Name)
		case n.Type.Kind == api.TArray:
			return say("%s %s [ %di32 ] ;", word, n.Name, n.Type.N)
		case len(n.Kids) == 0:
			return say("%s %s ;", word, n.Name)
		}
		return say("%s %s = %s ;", word, n.Name, kid(0))
	case api.Func:
		last := max(0, len(n.Kids)-1)
		return say("%s %s ( %s ) %s", word, n.Name, all(n.Kids[:last], ","), kid(last))
	case api.Param:
		if n.Type.Kind == api.TRef {
			return say("%s * %s", word, n.Name)
		}
		return say("%s %s", word, n.Name)
	case api.Block:
		return say("{ %s }", all(n.Kids, " "))
	case api.Set:
		return say("%s = %s ;", kid(0), kid(1))
	case api.If:
		if len(n.Kids) > 2 {
			return say("if ( %s ) %s else %s", kid(0), kid(1), kid(2))
		}
		return say("if ( %s ) %s", kid(0), kid(1))
	case api.For:
		return say("for %s = %di32 to %di32 %s", n.Name, n.N, n.M, kid(0))
	case api.Print:
		return say("print ( %s ) ;", kid(0))
	case api.Ret:
		return say("return %s ;", kid(0))
	case api.Call:
		if n.N == 1 && len(n.Kids) > 0 {
			return say("%s = %s ( %s ) ;", kid(0), n.Name, all(n.Kids[1:], ","))
		}
		return say("%s ( %s ) ;", n.Name, all(n.Kids, ","))
	}
	return looseExpression(n, word, kid)
}

func looseExpression(n api.Node, word string, kid func(int) string) string {
	say := fmt.Sprintf
	switch n.Kind {
	case api.Lit:
		if n.N < 0 {
			return say("#%d%s", n.N, word)
		}
		return say("%d%s", n.N, word)
	case api.Var:
		return n.Name
	case api.Index:
		return say("%s [ %s ]", n.Name, kid(0))
	case api.Member:
		return say("%s . %s", n.Name, n.Field)
	case api.Deref:
		return say("* %s", n.Name)
	case api.Unary:
		return say("(%c %s)", "?-~!????????????????????????????"[n.Op%32], kid(0))
	case api.Binary:
		sign := "?"
		if n.Op < 19 {
			sign = strings.Fields("? + - * / % & | ^ << >> < <= > >= == != && ||")[n.Op]
		}
		return say("(%s %s %s)", kid(0), sign, kid(1))
	case api.Cast:
		return say("((%s) %s)", word, kid(0))
	case api.Cond:
		return say("(%s ? %s : %s)", kid(0), kid(1), kid(2))
	case api.Ref:
		return say("& %s", kid(0))
	}
	return "?"
}

// against asks whether Text answers OK just where a text is read as n.
func against(t *testing.T, n api.Node) bool {
	t.Helper()
	m, _, e := parse.Parse(loosely(n))
	if e == api.OK && tree.Same(m, n) {
		readAgain(t, n)
		return true
	}
	refuse(t, told(n), n, api.ErrForm)
	return false
}

// changes: the node with one of its fields changed, or its kids.
func changes(n api.Node) []api.Node {
	var list []api.Node
	add := func(change func(m *api.Node)) {
		m := tree.Copy(n)
		change(&m)
		list = append(list, m)
	}
	for kind := range byte(27) {
		add(func(m *api.Node) { m.Kind = kind })
	}
	add(func(m *api.Node) { m.Kind = 255 })
	for _, op := range []byte{0, 1, 2, 3, 4, 18, 19, 33, 255} {
		add(func(m *api.Node) { m.Op = op })
	}
	for kind := range byte(5) {
		for _, t := range []byte{0, 1, 4, 5, 6, 255} {
			for _, v := range []int{0, 1, -1, 1<<31 - 1, 1 << 31, -1 << 31, 1 << 62} {
				add(func(m *api.Node) { m.Type = api.Type{Kind: kind, Int: t, N: v} })
			}
		}
	}
	for _, v := range []int64{0, 1, 2, -1, 127, 128, -128, -129, 255, 256, 1<<31 - 1, 1 << 31, -1 << 31, 1<<32 - 1, 1 << 32, -1 << 63, 1<<63 - 1} {
		add(func(m *api.Node) { m.N = v })
		add(func(m *api.Node) { m.M = v })
	}
	for _, name := range []string{"", "a", "i8", "to", "A", "0", "a b", "a;u8 b", "abcdefghi", "a ", " a", "a//", "a\n", "\x00", "é", "f(", "*p", "a.b", "a[0u8]"} {
		add(func(m *api.Node) { m.Name = name })
		add(func(m *api.Node) { m.Field = name })
	}
	for i := range n.Kids {
		add(func(m *api.Node) { m.Kids = slices.Delete(m.Kids, i, i+1) })
		add(func(m *api.Node) { m.Kids = slices.Insert(m.Kids, i, m.Kids[i]) })
		add(func(m *api.Node) { m.Kids[0], m.Kids[i] = m.Kids[i], m.Kids[0] })
	}
	for _, kid := range []api.Node{lit(api.I8, -1), variable("a"), node(api.Block), node(api.Ref, variable("a")), global("a"), node(api.Ret, variable("a")), {Kind: api.Param, Name: "a"}, {Kind: api.Field, Name: "a"}, {}} {
		add(func(m *api.Node) { m.Kids = append(m.Kids, kid) })
		add(func(m *api.Node) { m.Kids = append([]api.Node{kid}, m.Kids...) })
		add(func(m *api.Node) { m.Kids = []api.Node{kid} })
	}
	return list
}

// P6.1: trees of each kind of node, each changed in each of its fields.
func TestChanged(t *testing.T) {
	n := parsed(t, `struct a { u8 b; } struct a c; u16 x[3i32]; i8 y = #-5i8; u32 z;
		i32 f(u8 *p, i16 q) { u8 y = a; u8 x[1i32]; struct a b; a = b; if (a) { } if (a) { } else { } for i = 1i32 to 2i32 { }
		print(a); return a[b] + c.d; g(-a, &a); a = g(*p, &*p); g(); a = (u8)(a ? b : 5u8); }`)
	right, wrong := 0, 0
	for id := range tree.Size(n) {
		old, _ := tree.At(n, id)
		for _, changed := range changes(old) {
			whole := changed
			if id > 0 {
				whole, _ = tree.Put(n, id, []api.Node{changed})
			}
			if against(t, whole) {
				right++
			} else {
				wrong++
			}
		}
	}
	if right < 500 || wrong < 10000 {
		t.Errorf("%d trees with a text, %d without", right, wrong)
	}
}

// P6.1: drawn trees with a node changed, or put in the place of another one.
func TestDrawnChanged(t *testing.T) {
	d := drawing{rand.New(rand.NewSource(3))}
	for range 8000 {
		n := d.program(d.Intn(3))
		size := tree.Size(n)
		if size < 2 || size > 300 {
			continue
		}
		id := 1 + d.Intn(size-1)
		one, _ := tree.At(n, id)
		if d.Intn(2) == 0 {
			one, _ = tree.At(n, d.Intn(size))
		}
		if list := changes(one); d.Intn(2) == 0 {
			one = list[d.Intn(len(list))]
		}
		if m, e := tree.Put(n, id, []api.Node{one}); e == api.OK && tree.Depth(m) < 15 {
			against(t, m)
		}
	}
}

// P6.1: numbers at the ends of each type and one beyond; and names.
func TestNumbersAndNames(t *testing.T) {
	for i, r := range ends {
		for _, v := range []int64{r[0], r[1], 0, 1} {
			readAgain(t, body(node(api.Ret, lit(byte(i), v))))
			readAgain(t, body(node(api.Ret, unary(api.Neg, lit(byte(i), v)))))
			readAgain(t, body(node(api.Ret, binary(api.Sub, lit(byte(i), v), lit(byte(i), v)))))
			g := global("g")
			g.Kids = []api.Node{lit(byte(i), v)}
			readAgain(t, node(api.Prog, g))
		}
		for _, v := range []int64{r[0] - 1, r[1] + 1, -1 << 63, 1<<63 - 1} {
			refuse(t, fmt.Sprint(i, v), body(node(api.Ret, lit(byte(i), v))), api.ErrForm)
		}
	}
	for _, name := range []string{"a", "abcdefgh", "a0000000", "i", "i9", "i64", "iff", "structs", "too"} {
		readAgain(t, node(api.Prog, global(name)))
	}
	for _, name := range []string{"", "abcdefghi", "0", "0a", "i8", "if", "struct", "A", "a_b", "a b", "a;", "//", strings.Repeat("a", 70000), strings.Repeat("a;u8 ", 20000)} {
		refuse(t, name, node(api.Prog, global(name)), api.ErrForm)
	}
}

// ring: a tree without end.
func ring() api.Node {
	n := node(api.Block, node(api.Block))
	n.Kids[0].Kids = n.Kids
	return n
}

// P6.1: trees that aren't fine, also where no text would be read as them.
func TestNotFine(t *testing.T) {
	many := func(times int, one api.Node) api.Node {
		return node(api.Prog, slices.Repeat([]api.Node{one}, times)...)
	}
	readAgain(t, many(3999, global("a")))
	refuse(t, "one node too many", many(4000, global("a")), api.ErrLong)
	refuse(t, "one Lit too many", many(4000, lit(api.I8, 5)), api.ErrLong)
	refuse(t, "Lits", many(3999, lit(api.I8, 5)), api.ErrForm)
	refuse(t, "a ring", ring(), api.ErrLong)
	refuse(t, "a ring in a program", node(api.Prog, ring()), api.ErrLong)
	for what, wrap := range map[string]func(api.Node) api.Node{
		"unary": func(n api.Node) api.Node { return unary(api.Not, n) },
		"cast":  func(n api.Node) api.Node { return cast(api.U8, n) },
		"index": func(n api.Node) api.Node { return index("a", n) },
		"left":  func(n api.Node) api.Node { return binary(api.Sub, n, variable("a")) },
		"right": func(n api.Node) api.Node { return binary(api.Sub, variable("a"), n) },
		"both": func(n api.Node) api.Node {
			return unary(api.Neg, binary(api.LOr, variable("a"), binary(api.LOr, variable("b"), n)))
		},
		"first":  func(n api.Node) api.Node { return node(api.Cond, n, variable("a"), variable("b")) },
		"second": func(n api.Node) api.Node { return node(api.Cond, variable("a"), n, variable("b")) },
		"third":  func(n api.Node) api.Node { return node(api.Cond, variable("a"), variable("b"), n) },
		"mixed":  func(n api.Node) api.Node { return index("a", unary(api.Not, binary(api.Mul, variable("a"), n))) },
	} {
		n := variable("a")
		for {
			if !tree.Fine(body(node(api.Print, n))) {
				break
			}
			readAgain(t, body(node(api.Print, n)))
			readAgain(t, body(node(api.Ret, n)))
			readAgain(t, body(api.Node{Kind: api.Call, Name: "g", Kids: []api.Node{n}}))
			n = wrap(n)
		}
		refuse(t, what, body(node(api.Print, n)), api.ErrLong)
	}
}

// P6.1: blocks as deep as may be, with a bracket more at their bottom.
func TestDeepBlocks(t *testing.T) {
	for _, last := range []api.Node{
		{Kind: api.Call, Name: "g"}, {Kind: api.Let, Name: "a", Type: api.Type{Kind: api.TArray, N: 1}},
		node(api.Print, cast(api.I8, variable("a"))), node(api.If, variable("a"), node(api.Block)), node(api.If, index("a", variable("a")), node(api.Block), node(api.Block)),
	} {
		n := last
		for tree.Fine(body(n)) {
			readAgain(t, body(n))
			if n.Kind == api.If {
				n = api.Node{Kind: api.For, Name: "i", Kids: []api.Node{node(api.Block, n)}}
			} else {
				n = node(api.If, variable("b"), node(api.Block), node(api.Block, n))
			}
		}
		refuse(t, "too deep", body(n), api.ErrLong)
	}
}

// P6.1: texts of as many bytes as may be, and one more. Each of these trees has one shortest text, for no token of it can be told otherwise.
func TestLength(t *testing.T) {
	// struct abcdefgh abcdefgh; has 25 bytes, 2621 of it 65525; u8 and names fill up the rest.
	n := node(api.Prog, slices.Repeat([]api.Node{{Kind: api.Global, Type: api.Type{Kind: api.TStruct}, Field: "abcdefgh", Name: "abcdefgh"}}, 2621)...)
	fits := api.Node{Kind: api.Prog, Kids: append(slices.Clone(n.Kids), global("ab"), global("a"))} // 6 and 5 bytes
	if s := readAgain(t, fits); len(s) != api.MaxSource {
		t.Errorf("%d bytes", len(s))
	}
	above := api.Node{Kind: api.Prog, Kids: append(slices.Clone(n.Kids), global("ab"), global("ab"))}
	refuse(t, "one byte too many", above, api.ErrLong)
	great := node(api.Prog, slices.Repeat(n.Kids[:1], 3999)...)
	refuse(t, "many bytes too many", great, api.ErrLong)
	// What no text is read as has none that is too long.
	great.Kids = append(slices.Clone(great.Kids[1:]), global("A"))
	refuse(t, "many bytes, and no name", great, api.ErrForm)
	// for abcdefgh=2147483647i32 to 2147483647i32{} has 45 bytes, i32 f(){} 9.
	loop := api.Node{Kind: api.For, Name: "abcdefgh", N: 1<<31 - 1, M: 1<<31 - 1, Kids: []api.Node{node(api.Block)}}
	loops := slices.Repeat([]api.Node{loop}, (api.MaxSource-9)/45)
	if s := readAgain(t, body(loops...)); len(s) != 9+45*len(loops) {
		t.Errorf("%d bytes", len(s))
	}
	refuse(t, "a loop too many", body(append(loops, loop)...), api.ErrLong)
}

// P1: trees of any fields at all, of any kids.
func TestAnyTrees(t *testing.T) {
	r := rand.New(rand.NewSource(4))
	names := []string{"", "a", "i8", "abcdefghi", "(", "main", "\xff"}
	var draw func(depth int) api.Node
	draw = func(depth int) api.Node {
		n := api.Node{Kind: byte(r.Intn(27)), Op: byte(r.Intn(20)), Type: api.Type{Kind: byte(r.Intn(5)), Int: byte(r.Intn(8)), N: r.Intn(4) - 1}, N: int64(r.Intn(5) - 1), M: int64(r.Intn(5) - 1), Name: names[r.Intn(len(names))], Field: names[r.Intn(len(names))]}
		if r.Intn(2) == 0 {
			n = api.Node{Kind: n.Kind, Name: n.Name, Op: n.Op}
		}
		if depth > 0 {
			for range r.Intn(4) {
				n.Kids = append(n.Kids, draw(depth-1))
			}
		}
		return n
	}
	for range 20000 {
		n := draw(r.Intn(4))
		if r.Intn(2) == 0 {
			n = node(api.Prog, n)
		}
		against(t, n)
	}
	for kind := range 256 {
		against(t, api.Node{Kind: byte(kind)})
		against(t, node(api.Prog, api.Node{Kind: byte(kind)}))
		against(t, body(api.Node{Kind: byte(kind)}))
		against(t, body(node(api.Ret, api.Node{Kind: byte(kind)})))
	}
}

// roomy: the tree with spare room behind each list, which is marked.
func roomy(n api.Node) api.Node {
	list := make([]api.Node, 0, len(n.Kids)+3)
	for _, kid := range n.Kids {
		list = append(list, roomy(kid))
	}
	full := list[:cap(list)]
	for i := len(list); i < len(full); i++ {
		full[i] = api.Node{Kind: api.Lit, Name: "spare", N: int64(i)}
	}
	n.Kids = list
	return n
}

// whole tells a tree with the spare room of its lists.
func whole(n api.Node) string {
	var b strings.Builder
	for _, kid := range n.Kids[:cap(n.Kids)] {
		b.WriteString(whole(kid))
	}
	n.Kids = nil
	return fmt.Sprintf("%+v[%s]", n, b.String())
}

// P2, and memory: a tree is told always alike, and neither changed nor kept.
func TestArguments(t *testing.T) {
	d := drawing{rand.New(rand.NewSource(5))}
	for range 300 {
		n := roomy(d.program(3))
		before := whole(n)
		first, e := show.Text(n)
		if whole(n) != before {
			t.Errorf("%q: the tree was changed", first)
		}
		kept := strings.Clone(first)
		other := tree.Copy(n)
		for i := range n.Kids {
			n.Kids[i] = api.Node{Kind: 99}
		}
		if second, f := show.Text(other); first != kept || second != first || e != f {
			t.Errorf("%q and %q", first, second)
		}
	}
	refuse(t, "nothing", api.Node{}, api.ErrForm)
}

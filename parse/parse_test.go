package parse

import (
	"fmt"
	"math/rand"
	"reflect"
	"slices"
	"strings"
	"testing"

	"burin/api"
	"burin/lex"
	"burin/tree"
)

// The signatures that the chapter lists.
var (
	_ func(string) (api.Node, int, api.Errno) = Parse
	_ func(byte) (string, int)                = Signs
)

func node(kind byte, kids ...api.Node) api.Node { return api.Node{Kind: kind, Kids: kids} }

func lit(t byte, v int64) api.Node { return api.Node{Kind: api.Lit, Type: api.Type{Int: t}, N: v} }

func variable(name string) api.Node { return api.Node{Kind: api.Var, Name: name} }

func index(name string, place api.Node) api.Node {
	return api.Node{Kind: api.Index, Name: name, Kids: []api.Node{place}}
}

func binary(op byte, a, b api.Node) api.Node {
	return api.Node{Kind: api.Binary, Op: op, Kids: []api.Node{a, b}}
}

func unary(op byte, a api.Node) api.Node {
	return api.Node{Kind: api.Unary, Op: op, Kids: []api.Node{a}}
}

func cast(t byte, a api.Node) api.Node {
	return api.Node{Kind: api.Cast, Type: api.Type{Int: t}, Kids: []api.Node{a}}
}

func function(kids ...api.Node) api.Node {
	return api.Node{Kind: api.Func, Type: api.Type{Int: api.I32}, Name: "f", Kids: kids}
}

// body: a program whose only function has these statements; inBody its text.
func body(stats ...api.Node) api.Node {
	return node(api.Prog, function(node(api.Block, stats...)))
}

func inBody(text string) string { return "i32 f() { " + text + " }" }

func told(n api.Node) string { return fmt.Sprintf("%+v", n) }

func expect(t *testing.T, s string, want api.Node) {
	t.Helper()
	n, at, e := Parse(s)
	if e != api.OK || at != 0 || !tree.Same(n, want) {
		t.Errorf("Parse(%q) = %s, %d, %d; want %s", s, told(n), at, e, told(want))
	}
}

func refuse(t *testing.T, s string, place int, want api.Errno) {
	t.Helper()
	n, at, e := Parse(s)
	if e != want || at != place || !reflect.DeepEqual(n, api.Node{}) {
		t.Errorf("Parse(%.200q) = %.200s, %d, %d; want %d at %d", s, told(n), at, e, want, place)
	}
}

// long asks for ErrLong at one of the text's tokens.
func long(t *testing.T, what, s string) {
	t.Helper()
	n, at, e := Parse(s)
	there := slices.ContainsFunc(tokensOf(s), func(token api.Token) bool { return token.At == at })
	if e != api.ErrLong || !there || !reflect.DeepEqual(n, api.Node{}) {
		t.Errorf("%s: %d, %d, a token there: %v; want ErrLong", what, at, e, there)
	}
}

// The chapter's examples, and the document's fourth.
func TestExamples(t *testing.T) {
	s := "i32 main() { print(1i32 + 2i32 * 3i32); return 0i32; }"
	sum := binary(api.Add, lit(api.I32, 1), binary(api.Mul, lit(api.I32, 2), lit(api.I32, 3)))
	main := function(node(api.Block, node(api.Print, sum), node(api.Ret, lit(api.I32, 0))))
	main.Name = "main"
	expect(t, s, node(api.Prog, main))
	n, _, _ := Parse(s)
	kinds, _ := tree.List(n)
	if want := []byte{api.Prog, api.Func, api.Block, api.Print, api.Binary, api.Lit, api.Binary, api.Lit, api.Lit, api.Ret, api.Lit}; !slices.Equal(kinds, want) {
		t.Errorf("kinds %v, want %v", kinds, want)
	}
	refuse(t, "i32 x = 1i32 + 2i32;", 13, api.ErrText)
	refuse(t, "x = 1u8;", 0, api.ErrText)
	refuse(t, "i32 f(", 6, api.ErrText)
	refuse(t, "i32 f( ", 7, api.ErrText)
	expect(t, "", node(api.Prog))
	expect(t, " \n\t// nothing", node(api.Prog))
}

// P5.1
func TestSigns(t *testing.T) {
	for op := range 256 {
		sign, strength := Signs(byte(op))
		if op < 1 || op > 18 {
			if sign != "" || strength != 0 {
				t.Errorf("Signs(%d) = %q, %d", op, sign, strength)
			}
			continue
		}
		if operationOf[sign] != byte(op) || strength != strengthOf(sign) || strength < 1 || strength > 10 {
			t.Errorf("Signs(%d) = %q, %d", op, sign, strength)
		}
	}
}

// P5.2: the forms of items.
func TestItems(t *testing.T) {
	for i, word := range intWords {
		v := api.Type{Int: byte(i)}
		field := api.Node{Kind: api.Field, Type: v, Name: "b"}
		expect(t, "struct a { "+word+" b; }", node(api.Prog, api.Node{Kind: api.Struct, Name: "a", Kids: []api.Node{field}}))
		global := api.Node{Kind: api.Global, Type: v, Name: "g"}
		expect(t, word+" g;", node(api.Prog, global))
		global.Kids = []api.Node{lit(byte(i), 7)}
		expect(t, word+" g = 7"+word+";", node(api.Prog, global))
		global.Kids = []api.Node{lit(api.I16, -7)}
		expect(t, word+" g = #-7i16;", node(api.Prog, global))
		expect(t, word+" g[3i32];", node(api.Prog, api.Node{Kind: api.Global, Type: api.Type{Kind: api.TArray, Int: byte(i), N: 3}, Name: "g"}))
		ref := api.Node{Kind: api.Param, Type: api.Type{Kind: api.TRef, Int: byte(i)}, Name: "p"}
		param := api.Node{Kind: api.Param, Type: v, Name: "q"}
		f := api.Node{Kind: api.Func, Type: v, Name: "f", Kids: []api.Node{node(api.Block)}}
		expect(t, word+" f() { }", node(api.Prog, f))
		f.Kids = []api.Node{ref, node(api.Block)}
		expect(t, word+" f("+word+" *p) { }", node(api.Prog, f))
		f.Kids = []api.Node{param, ref, param, node(api.Block)}
		expect(t, word+" f("+word+" q,"+word+"*p, "+word+" q){}", node(api.Prog, f))
	}
	expect(t, "struct a { }", node(api.Prog, api.Node{Kind: api.Struct, Name: "a"}))
	b, c := api.Node{Kind: api.Field, Type: api.Type{Int: api.U8}, Name: "b"}, api.Node{Kind: api.Field, Type: api.Type{Int: api.I16}, Name: "c"}
	expect(t, "struct a { u8 b; i16 c; u8 b; }", node(api.Prog, api.Node{Kind: api.Struct, Name: "a", Kids: []api.Node{b, c, b}}))
	g := api.Node{Kind: api.Global, Type: api.Type{Kind: api.TStruct}, Field: "a", Name: "g"}
	expect(t, "struct a g;", node(api.Prog, g))
	expect(t, "struct a g; struct a { } i32 f() { } struct a g;", node(api.Prog, g, api.Node{Kind: api.Struct, Name: "a"}, function(node(api.Block)), g))
}

// P5.2: the forms of statements.
func TestStatements(t *testing.T) {
	x, one := variable("x"), lit(api.U8, 1)
	u8 := api.Type{Int: api.U8}
	call := func(n int64, kids ...api.Node) api.Node {
		return api.Node{Kind: api.Call, Name: "g", N: n, Kids: kids}
	}
	member := api.Node{Kind: api.Member, Name: "s", Field: "b"}
	deref := api.Node{Kind: api.Deref, Name: "p"}
	for _, r := range []struct {
		text string
		want api.Node
	}{
		{"u8 x;", api.Node{Kind: api.Let, Type: u8, Name: "x"}},
		{"u8 x[16i32];", api.Node{Kind: api.Let, Type: api.Type{Kind: api.TArray, Int: api.U8, N: 16}, Name: "x"}},
		{"u8 x = 1u8;", api.Node{Kind: api.Let, Type: u8, Name: "x", Kids: []api.Node{one}}},
		{"u8 x = x + 1u8;", api.Node{Kind: api.Let, Type: u8, Name: "x", Kids: []api.Node{binary(api.Add, x, one)}}},
		{"u8 x = x ? x : 1u8;", api.Node{Kind: api.Let, Type: u8, Name: "x", Kids: []api.Node{node(api.Cond, x, x, one)}}},
		{"struct a x;", api.Node{Kind: api.Let, Type: api.Type{Kind: api.TStruct}, Field: "a", Name: "x"}},
		{"if (x) { }", node(api.If, x, node(api.Block))},
		{"if (x) { return x; } else { }", node(api.If, x, node(api.Block, node(api.Ret, x)), node(api.Block))},
		{"if (x) { if (1u8) { } else { } }", node(api.If, x, node(api.Block, node(api.If, one, node(api.Block), node(api.Block))))},
		{"for i = 2i32 to 7i32 { print(x); }", api.Node{Kind: api.For, Name: "i", N: 2, M: 7, Kids: []api.Node{node(api.Block, node(api.Print, x))}}},
		{"for i = 7i32 to 2i32 { }", api.Node{Kind: api.For, Name: "i", N: 7, M: 2, Kids: []api.Node{node(api.Block)}}},
		{"print(x);", node(api.Print, x)},
		{"print((x));", node(api.Print, x)},
		{"return 1u8;", node(api.Ret, one)},
		{"return (1u8);", node(api.Ret, one)},
		{"g();", call(0)},
		{"g(x);", call(0, x)},
		{"g(x, &x, 1u8, &x[1u8], &s.b, &*p);", call(0, x, node(api.Ref, x), one, node(api.Ref, index("x", one)), node(api.Ref, member), node(api.Ref, deref))},
		{"x = g();", call(1, x)},
		{"x[1u8] = g(1u8);", call(1, index("x", one), one)},
		{"s.b = g(x ? x : x, *p);", call(1, member, node(api.Cond, x, x, x), deref)},
		{"*p = g(&*p);", call(1, deref, node(api.Ref, deref))},
		{"x = 1u8;", node(api.Set, x, one)},
		{"x = x;", node(api.Set, x, x)},
		{"x = (x);", node(api.Set, x, x)},
		{"x[x] = x[x[1u8]];", node(api.Set, index("x", x), index("x", index("x", one)))},
		{"s.b = s.b;", node(api.Set, member, member)},
		{"*p = *p;", node(api.Set, deref, deref)},
	} {
		expect(t, inBody(r.text), body(r.want))
		expect(t, inBody(r.text+r.text), body(r.want, r.want))
	}
	expect(t, inBody("return 1u8;")+" u8 x;", node(api.Prog, function(node(api.Block, node(api.Ret, one))), api.Node{Kind: api.Global, Type: u8, Name: "x"}))
}

// P5.2: the forms of expressions.
func TestExpressions(t *testing.T) {
	a, b, c, d, p := variable("a"), variable("b"), variable("c"), variable("d"), api.Node{Kind: api.Deref, Name: "p"}
	for _, r := range []struct {
		text string
		want api.Node
	}{
		{"a", a},
		{"(((a)))", a},
		{"5u8", lit(api.U8, 5)},
		{"#-5i8", lit(api.I8, -5)},
		{"-5i8", unary(api.Neg, lit(api.I8, 5))},
		{"-#-5i8", unary(api.Neg, lit(api.I8, -5))},
		{"-~!a", unary(api.Neg, unary(api.Not, unary(api.Bang, a)))},
		{"--a", unary(api.Neg, unary(api.Neg, a))},
		{"-(a)", unary(api.Neg, a)},
		{"-a + b", binary(api.Add, unary(api.Neg, a), b)},
		{"-(a + b)", unary(api.Neg, binary(api.Add, a, b))},
		{"a - -b", binary(api.Sub, a, unary(api.Neg, b))},
		{"(i8)a", cast(api.I8, a)},
		{"(u8)(i16)(u16)(i32)(u32)a", cast(api.U8, cast(api.I16, cast(api.U16, cast(api.I32, cast(api.U32, a)))))},
		{"(i8)a * b", binary(api.Mul, cast(api.I8, a), b)},
		{"(i8)(a * b)", cast(api.I8, binary(api.Mul, a, b))},
		{"((i8)a)", cast(api.I8, a)},
		{"-(i8)-a", unary(api.Neg, cast(api.I8, unary(api.Neg, a)))},
		{"*p", p},
		{"a * *p", binary(api.Mul, a, p)},
		{"*p * *p", binary(api.Mul, p, p)},
		{"a & *p", binary(api.And, a, p)},
		{"-*p", unary(api.Neg, p)},
		{"a[b]", index("a", b)},
		{"a[b ? c : d]", index("a", node(api.Cond, b, c, d))},
		{"a.b", api.Node{Kind: api.Member, Name: "a", Field: "b"}},
		{"-a[b]", unary(api.Neg, index("a", b))},
		{"a ? b : c", node(api.Cond, a, b, c)},
		{"a ? b : c ? d : a", node(api.Cond, a, b, node(api.Cond, c, d, a))},
		{"a ? b ? c : d : a", node(api.Cond, a, node(api.Cond, b, c, d), a)},
		{"(a ? b : c) ? d : a", node(api.Cond, node(api.Cond, a, b, c), d, a)},
		{"a || b ? c || d : d || c", node(api.Cond, binary(api.LOr, a, b), binary(api.LOr, c, d), binary(api.LOr, d, c))},
		{"a + (b ? c : d)", binary(api.Add, a, node(api.Cond, b, c, d))},
		{"a + b ? c : d", node(api.Cond, binary(api.Add, a, b), c, d)},
		{"a - b - c", binary(api.Sub, binary(api.Sub, a, b), c)},
		{"a - (b - c)", binary(api.Sub, a, binary(api.Sub, b, c))},
	} {
		expect(t, inBody("return "+r.text+";"), body(node(api.Ret, r.want)))
	}
}

// grouped: the tree of names with signs between, told apart at the last of the weakest signs.
func grouped(names, signs []string) api.Node {
	if len(signs) == 0 {
		return variable(names[0])
	}
	at := 0
	for i, sign := range signs {
		if strengthOf(sign) <= strengthOf(signs[at]) {
			at = i
		}
	}
	return binary(operationOf[signs[at]], grouped(names[:at+1], signs[:at]), grouped(names[at+1:], signs[at+1:]))
}

// P5.2: all pairs and triples of signs, and longer runs of them.
func TestStrengths(t *testing.T) {
	names := strings.Fields("a b c d e f g h i j k l m n o p q r s t")
	check := func(signs ...string) {
		text := names[0]
		for i, sign := range signs {
			text += sign + names[i+1]
		}
		expect(t, inBody("return "+text+";"), body(node(api.Ret, grouped(names, signs))))
	}
	all := strings.Fields(strings.Join(byStrength, " "))
	if len(all) != 18 {
		t.Fatal(all)
	}
	for _, a := range all {
		check(a)
		for _, b := range all {
			check(a, b)
			for _, c := range all {
				check(a, b, c)
			}
		}
	}
	r := rand.New(rand.NewSource(1))
	for range 2000 {
		signs := make([]string, 4+r.Intn(len(names)-4))
		for i := range signs {
			signs[i] = all[r.Intn(len(all))]
		}
		check(signs...)
	}
}

// P5.2: what is read of drawn texts is what was drawn, whatever the blanks and needless brackets.
func TestDrawn(t *testing.T) {
	d := drawing{rand.New(rand.NewSource(2))}
	for range 3000 {
		p := d.program(1 + d.Intn(4))
		if s := d.text(p.tokens); tree.Fine(p.node) && len(s) <= api.MaxSource {
			expect(t, s, p.node)
		}
	}
}

// forms: all forms of the grammar, each of its choices.
var forms = []string{
	"struct a { u8 b; i16 c; }", "struct a { }", "struct a b;",
	"i32 x;", "u16 x[3i32];", "u8 x = 5i8;", "u8 x = #-5i8;",
	"i8 f() { }", "i8 f(u8 a) { }", "i8 f(u8 *a, i32 b) { }",
	inBody("i32 x;"), inBody("u16 x[3i32];"), inBody("u8 x = a + 1u8;"), inBody("struct a b;"),
	inBody("if (a) { }"), inBody("if (a < b) { a = b; } else { b = a; }"),
	inBody("for i = 0i32 to 3i32 { f(); }"),
	inBody("print(a);"), inBody("return a;"),
	inBody("g();"), inBody("g(a);"), inBody("g(&a, b, &c[1u8], &d.e, &*p);"),
	inBody("x = g();"), inBody("x[a] = g(a);"), inBody("x.y = g(&a);"), inBody("*p = g(*p);"),
	inBody("x = a;"), inBody("x[a[b]] = c[d];"), inBody("x.y = z.w;"), inBody("*p = *q;"),
	inBody("a = b ? c : d;"), inBody("a = b ? c ? d : e : f ? g : h;"),
	inBody("a = -b;"), inBody("a = ~!(u8)-b;"), inBody("a = 5u8;"), inBody("a = (b);"), inBody("a = (i32)(b * (c + *d));"),
	inBody("a = b || c && d | e ^ f & g == h != i < j <= k > l >= m << n >> o + p - q * r / s % t;"),
}

// P5.2: texts that end in the middle of a form; and each token left out or put in the place of each, against the grammar.
func TestBrokenForms(t *testing.T) {
	for _, s := range forms {
		tokens := tokensOf(s)
		if at, e := standing(tokens); e != api.OK {
			t.Fatalf("%q: %d at %d", s, e, at)
		}
		for i, token := range tokens[:len(tokens)-1] {
			if i > 0 {
				refuse(t, s[:token.At], token.At, api.ErrText)
				refuse(t, s[:token.At]+" \n ", token.At+3, api.ErrText)
			}
			rest := s[token.At+len(token.Text):]
			against(t, s[:token.At]+rest)
			for _, other := range strings.Fields(allSigns + " struct if else for to print return u8 a 5u8 5i32 #-5i32") {
				against(t, s[:token.At]+" "+other+" "+rest)
				against(t, s[:token.At]+" "+other+" "+s[token.At:])
			}
		}
	}
}

// against asks whether Parse stops where the grammar says. (Texts here are short: none has too many nodes, or too deep a tree.)
func against(t *testing.T, s string) {
	t.Helper()
	tokens, place, want := lex.Lex(s)
	if want == api.OK {
		place, want = standing(tokens)
	}
	if _, at, e := Parse(s); e != want || at != place {
		t.Errorf("Parse(%q): %d at %d; want %d at %d", s, e, at, want, place)
	}
}

// P5.2: the place of the first token that can't stand there, in drawn texts that were spoilt, and in tokens drawn at random.
func TestSpoilt(t *testing.T) {
	d := drawing{rand.New(rand.NewSource(3))}
	for range 4000 {
		p := d.program(1 + d.Intn(2))
		if len(p.tokens) < 250 && tree.Depth(p.node) < 20 {
			against(t, d.text(d.spoilt(p.tokens)))
		}
	}
	for range 20000 {
		tokens := strings.Fields(d.pick("", "i32 f (", "i32 f ( ) {", "i32 f ( ) { a =", "i32 f ( ) { g (", "struct a {", "i32 x ["))
		for range d.Intn(12) {
			tokens = append(tokens, d.token())
		}
		against(t, strings.Join(tokens, " "))
	}
}

// P5.2: a length, and the numbers of a for, are of i32 and not below 0; a global's first number is of any type.
func TestCounts(t *testing.T) {
	for _, form := range []string{"i32 x[@];", inBody("u8 x[@];"), inBody("for i = @ to 3i32 { }"), inBody("for i = 3i32 to @ { }")} {
		at := strings.Index(form, "@")
		for _, wrong := range []string{"1i8", "1u8", "1i16", "1u16", "1u32", "0u32", "#-1i32", "#-2147483648i32", "#-1i8", "x", "(1i32)", "-1i32", "]", "1i32+1i32"} {
			place := at
			if wrong == "1i32+1i32" {
				place = at + 4
			}
			refuse(t, strings.Replace(form, "@", wrong, 1), place, api.ErrText)
		}
		for _, right := range []int64{0, 1, 16, 17, 1<<31 - 1} {
			n, _, e := Parse(strings.Replace(form, "@", fmt.Sprint(right, "i32"), 1))
			if s := told(n); e != api.OK || !strings.Contains(s, fmt.Sprintf("N:%d", right)) && !strings.Contains(s, fmt.Sprintf("M:%d ", right)) {
				t.Errorf("%s with %d: %s, %d", form, right, s, e)
			}
		}
	}
}

// P5.2: lex's errors go ahead of all else.
func TestLexFaults(t *testing.T) {
	for s, at := range map[string]int{
		"A": 0, "x = 1u8; A": 9, "i32 x = 1i32 + 007i32;": 15, "i32 main() { print(256u8); }": 19, ") abcdefghi": 2,
		"i32 f() { " + strings.Repeat("(", 100) + "@": 110, strings.Repeat("u8 a;", 5000) + "5": 25000,
	} {
		refuse(t, s, at, api.ErrText)
	}
	full := "u8 x;" + strings.Repeat(" ", api.MaxSource-5)
	expect(t, full, node(api.Prog, api.Node{Kind: api.Global, Type: api.Type{Int: api.U8}, Name: "x"}))
	refuse(t, full+" ", 0, api.ErrLong)
	refuse(t, "A"+full, 0, api.ErrLong)
	refuse(t, ")"+full[2:], 0, api.ErrText)
	refuse(t, strings.Repeat("(", api.MaxSource+1), 0, api.ErrLong)
}

// nested: inner within that many of these statements.
func nested(opening, inner, closing string, times int) string {
	return inBody(strings.Repeat(opening, times) + inner + strings.Repeat(closing, times))
}

// P5.2: brackets of each kind as deep as may be, and one deeper.
func TestBrackets(t *testing.T) {
	// Two are open ahead of the inner ones: those of the function's block and of print.
	round := func(times int) string {
		return inBody("print(" + strings.Repeat("(", times) + "a" + strings.Repeat(")", times) + ");")
	}
	expect(t, round(38), body(node(api.Print, variable("a"))))
	first := len("i32 f() { print(")
	refuse(t, round(39), first+38, api.ErrDeep)
	refuse(t, round(1000), first+38, api.ErrDeep)
	square := func(times int) string {
		return inBody("print(" + strings.Repeat("a[", times) + "a" + strings.Repeat("]", times) + ");")
	}
	refuse(t, square(38), 0, api.ErrDeep) // the tree is too deep
	refuse(t, square(39), first+2*38+1, api.ErrDeep)
	for _, opening := range []string{"if (a) {", "if (a) { } else {", "for i = 0i32 to 1i32 {"} {
		refuse(t, nested(opening, "", "}", 39), 0, api.ErrDeep)
		refuse(t, nested(opening, "a;", "}", 39), len("i32 f() { ")+39*len(opening)+1, api.ErrText)
		// Of an if that is the bracket of the condition.
		refuse(t, nested(opening, "", "}", 40), len("i32 f() { ")+39*len(opening)+strings.IndexAny(opening, "({"), api.ErrDeep)
	}
	// Casts, calls, lengths and parameters open brackets too.
	for _, r := range []struct{ text, mark string }{
		{"print(" + strings.Repeat("(", 38) + "(i8)a", "(i8)"},
		{strings.Repeat("for i = 0i32 to 1i32 {", 39) + "if (a) { }", "(a)"},
		{strings.Repeat("for i = 0i32 to 1i32 {", 39) + "g();", "();"},
		{strings.Repeat("for i = 0i32 to 1i32 {", 39) + "a = g();", "();"},
		{strings.Repeat("for i = 0i32 to 1i32 {", 39) + "u8 a[1i32];", "[1"},
		{strings.Repeat("for i = 0i32 to 1i32 {", 39) + "print(a);", "(a);"},
		{strings.Repeat("for i = 0i32 to 1i32 {", 39) + "a[a] = a;", "[a]"},
	} {
		s := "i32 f() { " + r.text
		refuse(t, s, strings.Index(s, r.mark), api.ErrDeep)
	}
}

// P5.2: brackets that are closed again don't count; what stands further left goes first; of one bracket, that it is one too many.
func TestBracketOrder(t *testing.T) {
	many := inBody(strings.Repeat("g((a), a[a], (i8)(a)); if (a) { }", 100))
	if _, at, e := Parse(many); e != api.OK {
		t.Errorf("closed brackets: %d at %d", e, at)
	}
	head := "i32 f() { print("
	refuse(t, head+strings.Repeat("(", 37)+"[", len(head)+37, api.ErrText)
	for _, bracket := range []string{"(", "[", "{"} {
		refuse(t, head+strings.Repeat("(", 38)+bracket, len(head)+38, api.ErrDeep)
		refuse(t, head+strings.Repeat("(", 38)+"a "+bracket, len(head)+40, api.ErrDeep)
		refuse(t, head+strings.Repeat("(", 38)+"; "+bracket, len(head)+38, api.ErrText)
		refuse(t, head+strings.Repeat("(", 38)+") "+bracket, len(head)+38, api.ErrText)
	}
	refuse(t, head+strings.Repeat("(", 38)+";", len(head)+38, api.ErrText)
	refuse(t, head+strings.Repeat("(", 38)+"a"+strings.Repeat(")", 38)+"; (", len(head)+38+1+38, api.ErrText)
	d := drawing{rand.New(rand.NewSource(4))}
	for range 1000 {
		tokens := strings.Fields("i32 f ( ) { print (")
		for range 30 + d.Intn(12) {
			tokens = append(tokens, strings.Fields(d.pick("(", "(", "( - (", "a [", "( a +"))...)
		}
		for range d.Intn(6) {
			tokens = append(tokens, d.token())
		}
		s := strings.Join(tokens, " ")
		place, want := standing(tokensOf(s))
		if _, at, e := Parse(s); e != want || at != place {
			t.Errorf("Parse(%q): %d at %d; want %d at %d", s, e, at, want, place)
		}
	}
}

// P5.2: trees as deep as may be, and one deeper; without a place, and behind all else.
func TestDepth(t *testing.T) {
	for what, r := range map[string]struct {
		times int // of the most that is not too deep
		text  func(times int) string
	}{
		"-":     {35, func(k int) string { return "return " + strings.Repeat("-", k) + "a;" }},
		"cast":  {35, func(k int) string { return "return " + strings.Repeat("(u8)", k) + "a;" }},
		"left":  {35, func(k int) string { return "return a" + strings.Repeat("+a", k) + ";" }},
		"?":     {35, func(k int) string { return "return " + strings.Repeat("a?a:", k) + "a;" }},
		"index": {35, func(k int) string { return "return " + strings.Repeat("a[", k) + "a" + strings.Repeat("]", k) + ";" }},
		"right": {35, func(k int) string { return "return " + strings.Repeat("a+(", k) + "a" + strings.Repeat(")", k) + ";" }},
		"arg":   {35, func(k int) string { return "g(" + strings.Repeat("-", k) + "a);" }},
		"ref":   {33, func(k int) string { return "g(&a[" + strings.Repeat("-", k) + "a]);" }},
		"for": {18, func(k int) string {
			return strings.Repeat("for i = 0i32 to 0i32 {", k) + "u8 a;" + strings.Repeat("}", k)
		}},
		"if":   {18, func(k int) string { return strings.Repeat("if (a) {", k) + "g();" + strings.Repeat("}", k) }},
		"else": {18, func(k int) string { return strings.Repeat("if (a) { } else {", k) + "g();" + strings.Repeat("}", k) }},
	} {
		n, at, e := Parse(inBody(r.text(r.times)))
		if e != api.OK || at != 0 || tree.Depth(n) > api.MaxDepth || tree.Depth(n) < api.MaxDepth-1 {
			t.Errorf("%s: depth %d, %d at %d", what, tree.Depth(n), e, at)
		}
		s := inBody(r.text(r.times + 1))
		refuse(t, s, 0, api.ErrDeep)
		refuse(t, s+" )", len(s)+1, api.ErrText)
		refuse(t, s+" i32 f", len(s)+6, api.ErrText)
	}
}

// P5.2, P5.3: texts of as many nodes as may be, and of one more, with each kind of node as the last ones.
func TestNodes(t *testing.T) {
	for _, form := range append(forms, "", inBody(""), inBody("return a;"), inBody("return -a;"), inBody("return (u8)a;"), inBody("return *a;"), inBody("return a.b;"), inBody("return a[b];"), inBody("return 5u8;")) {
		n, _, e := Parse(form)
		if e != api.OK {
			t.Fatal(form)
		}
		more := api.MaxNodes - tree.Size(n)
		fits := strings.Repeat("u8 a;", more) + form
		m, at, e := Parse(fits)
		if e != api.OK || at != 0 || tree.Size(m) != api.MaxNodes {
			t.Errorf("%d nodes and %q: %d nodes, %d at %d", more, form, tree.Size(m), e, at)
		}
		long(t, form, "u8 a;"+fits)
		long(t, form, fits+" u8 a;")
		long(t, form, strings.Repeat("u8 a;", more)+form+form+"u8 a;")
	}
}

// P5.2, P5.3: each kind of node is counted, wherever the many stand.
func TestManyNodes(t *testing.T) {
	for _, r := range []struct {
		first, one, last string
		head, each       int // nodes beside the many, nodes of each of them
	}{
		{"", "u8 a;", "", 1, 1},
		{"", "u8 a = 5u8;", "", 1, 2},
		{"", "u8 a[5i32];", "", 1, 1},
		{"", "struct a b;", "", 1, 1},
		{"", "struct a { }", "", 1, 1},
		{"struct a {", "u8 a;", "}", 2, 1},
		{"", "u8 a() { }", "", 1, 2},
		{"u8 a(u8 a", ", u8 a", ") { }", 4, 1},
		{"u8 a(u8 a", ", u8 *a", ") { }", 4, 1},
		{"u8 a() {", "u8 a;", "}", 3, 1},
		{"u8 a() {", "struct a b;", "}", 3, 1},
		{"u8 a() {", "u8 a = b;", "}", 3, 2},
		{"u8 a() {", "a = b;", "}", 3, 3},
		{"u8 a() {", "if (a) { }", "}", 3, 3},
		{"u8 a() {", "if (a) { } else { }", "}", 3, 4},
		{"u8 a() {", "for i = 0i32 to 1i32{}", "}", 3, 2},
		{"u8 a() {", "print(a);", "}", 3, 2},
		{"u8 a() {", "return a;", "}", 3, 2},
		{"u8 a() {", "a();", "}", 3, 1},
		{"u8 a() {", "a = a();", "}", 3, 2},
		{"u8 a() { a(a", ", a", "); }", 5, 1},
		{"u8 a() { a(a", ", 5u8", "); }", 5, 1},
		{"u8 a() { a(a", ", *a", "); }", 5, 1},
		{"u8 a() { a(a", ", a.a", "); }", 5, 1},
		{"u8 a() { a(a", ", a[a]", "); }", 5, 2},
		{"u8 a() { a(a", ", &a", "); }", 5, 2},
		{"u8 a() { a(a", ", -a", "); }", 5, 2},
		{"u8 a() { a(a", ", (i8)a", "); }", 5, 2},
		{"u8 a() { a(a", ", (a)", "); }", 5, 1},
		{"u8 a() { a(a", ", a + a", "); }", 5, 3},
		{"u8 a() { a(a", ", a ? a : a", "); }", 5, 4},
	} {
		times := (api.MaxNodes - r.head) / r.each
		pad := strings.Repeat("u8 a;", api.MaxNodes-r.head-times*r.each)
		s := pad + r.first + strings.Repeat(r.one, times) + r.last
		if n, at, e := Parse(s); e != api.OK || at != 0 || tree.Size(n) != api.MaxNodes {
			t.Errorf("%s: %d nodes, %d at %d", r.one, tree.Size(n), e, at)
		}
		long(t, r.one, "u8 a;"+s)
		long(t, r.one, s+"u8 a;")
		long(t, r.one, pad+r.first+strings.Repeat(r.one, times+1)+r.last)
	}
}

// P1, P5.3: with two faults either is right; runs as long as a text may be are refused all the same.
func TestEndlessRuns(t *testing.T) {
	for _, one := range []string{"-", "~", "!", "(u8)", "a+", "a?", "a?a:", "a[", "(", "-(", "a+(", "a ? (", "if(a){", "u8 a=", "*", "&", "a,", "g(", "{", "}", "struct ", "u8 "} {
		for _, first := range []string{"", "i32 f() {", "i32 f() { return "} {
			s := first + strings.Repeat(one, (api.MaxSource-len(first))/len(one))
			n, at, e := Parse(s)
			if e != api.ErrLong && e != api.ErrDeep && e != api.ErrText || at < 0 || at > len(s) || !reflect.DeepEqual(n, api.Node{}) {
				t.Errorf("%s and many %s: %d at %d", first, one, e, at)
			}
		}
	}
	long(t, "signs", inBody("return "+strings.Repeat("-", 60000)+"a;"))
	for _, s := range []string{
		inBody("return a" + strings.Repeat("+a", 5000) + ";"),
		inBody("return " + strings.Repeat("a?a:", 5000) + "a;"),
		inBody("return " + strings.Repeat("(u8)", 5000) + "a;"),
		strings.Repeat("u8 a;", 5000) + ")",
	} {
		if _, at, e := Parse(s); e != api.ErrLong && !(e == api.ErrDeep && at == 0) && !(e == api.ErrText && at == len(s)-1) {
			t.Errorf("%.30s..: %d at %d", s, e, at)
		}
	}
}

// P1: no bytes make it panic.
func TestBytes(t *testing.T) {
	r := rand.New(rand.NewSource(5))
	for range 20000 {
		b := make([]byte, r.Intn(40))
		r.Read(b)
		s := string(b)
		if _, place, want := lex.Lex(s); want != api.OK {
			refuse(t, s, place, want)
		} else {
			against(t, s)
		}
	}
	for c := range 256 {
		against(t, string([]byte{byte(c)}))
		against(t, inBody("a = b "+string([]byte{byte(c)})+" c;"))
	}
}

// mark writes over all nodes, and over the spare room of all lists.
func mark(n *api.Node) {
	n.Kids = n.Kids[:cap(n.Kids)]
	for i := range n.Kids {
		mark(&n.Kids[i])
		n.Kids[i] = api.Node{Kind: 99, Name: "marked"}
	}
}

// fill writes over the spare room of all lists alone.
func fill(n *api.Node) {
	for i := range n.Kids {
		fill(&n.Kids[i])
	}
	room := n.Kids[len(n.Kids):cap(n.Kids)]
	for i := range room {
		room[i] = api.Node{Kind: 99, Name: "marked"}
	}
}

// P2, and memory: the same text is read as the same tree, whatever happened to an earlier answer; no two lists of one answer share any room.
func TestAnswersAreNew(t *testing.T) {
	d := drawing{rand.New(rand.NewSource(6))}
	texts := slices.Clone(forms)
	for range 300 {
		texts = append(texts, d.text(d.program(3).tokens))
	}
	for _, s := range texts {
		first, at, e := Parse(s)
		if e != api.OK {
			t.Fatalf("%q: %d at %d", s, e, at)
		}
		want := told(first)
		fill(&first)
		if told(first) != want {
			t.Errorf("lists of %q share room", s)
		}
		second, _, _ := Parse(s)
		mark(&first)
		if told(second) != want {
			t.Errorf("answers of %q share memory", s)
		}
		third, at, e := Parse(s)
		if told(third) != want || at != 0 || e != api.OK {
			t.Errorf("%q is read otherwise the third time", s)
		}
	}
	for range 3 {
		refuse(t, "i32 x = 1i32 + 2i32;", 13, api.ErrText)
	}
}

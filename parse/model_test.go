package parse

import (
	"math/rand"
	"slices"
	"strconv"
	"strings"

	"burin/api"
	"burin/lex"
)

// grammar is the chapter's, written out as rules without choices: the first word is what is told, behind = stands of what it is made. LEN is a NUM of i32 that is not below 0, SIGN one of two numbers.
const grammar = `
program =
program = program item
item = struct NAME { fields }
item = struct NAME NAME ;
item = INT NAME ;
item = INT NAME [ LEN ] ;
item = INT NAME = NUM ;
item = INT NAME ( ) block
item = INT NAME ( params ) block
fields =
fields = fields INT NAME ;
params = param
params = params , param
param = INT NAME
param = INT * NAME
block = { stats }
stats =
stats = stats stat
stat = INT NAME ;
stat = INT NAME [ LEN ] ;
stat = INT NAME = expr ;
stat = struct NAME NAME ;
stat = if ( expr ) block
stat = if ( expr ) block else block
stat = for NAME = LEN to LEN block
stat = print ( expr ) ;
stat = return expr ;
stat = call ;
stat = lvalue = call ;
stat = lvalue = expr ;
call = NAME ( )
call = NAME ( args )
args = arg
args = args , arg
arg = & lvalue
arg = expr
lvalue = NAME
lvalue = NAME [ expr ]
lvalue = NAME . NAME
lvalue = * NAME
expr = or
expr = or ? expr : expr
or = unary
or = or SIGN unary
unary = - unary
unary = ~ unary
unary = ! unary
unary = ( INT ) unary
unary = NUM
unary = lvalue
unary = ( expr )
`

// byStrength: the signs of two numbers, the weakest first.
var byStrength = strings.Split("||;&&;|;^;&;== !=;< <= > >=;<< >>;+ -;* / %", ";")

// operationOf: the numbers of the operations, as DOC.md tells them.
var operationOf = map[string]byte{
	"+": 1, "-": 2, "*": 3, "/": 4, "%": 5, "&": 6, "|": 7, "^": 8, "<<": 9, ">>": 10,
	"<": 11, "<=": 12, ">": 13, ">=": 14, "==": 15, "!=": 16, "&&": 17, "||": 18,
}

var intWords = []string{"i8", "u8", "i16", "u16", "i32", "u32"}

func strengthOf(sign string) int {
	for i, signs := range byStrength {
		if slices.Contains(strings.Fields(signs), sign) {
			return i + 1
		}
	}
	return 0
}

// item: a rule that was read up to one of its parts, from one of the tokens on.
type item struct {
	rule, point, from int
}

var ruleNames, ruleParts = rulesOf(grammar)

func rulesOf(text string) (names []string, parts [][]string) {
	for line := range strings.Lines(strings.TrimSpace(text)) {
		words := strings.Fields(line)
		names = append(names, words[0])
		parts = append(parts, words[2:])
	}
	return names, parts
}

// stands: can the token stand for that part of a rule?
func stands(token api.Token, part string) bool {
	switch part {
	case "NAME":
		return token.Kind == api.TokName
	case "NUM":
		return token.Kind == api.TokNumber
	case "LEN":
		return token.Kind == api.TokNumber && token.Int == api.I32 && token.N >= 0
	case "INT":
		return slices.Contains(intWords, token.Text)
	case "SIGN":
		return strengthOf(token.Text) > 0
	}
	return token.Text == part
}

// spread adds all that follows from the items of the last of the sets, by Earley's rules.
func spread(sets [][]item) {
	last := len(sets) - 1
	add := func(it item) {
		if !slices.Contains(sets[last], it) {
			sets[last] = append(sets[last], it)
		}
	}
	for i := 0; i < len(sets[last]); i++ {
		it := sets[last][i]
		parts := ruleParts[it.rule]
		if it.point < len(parts) {
			for rule, name := range ruleNames {
				if name == parts[it.point] {
					add(item{rule, 0, last})
					if len(ruleParts[rule]) == 0 {
						add(item{it.rule, it.point + 1, it.from})
					}
				}
			}
			continue
		}
		for j := 0; j < len(sets[it.from]); j++ {
			up := sets[it.from][j]
			if p := ruleParts[up.rule]; up.point < len(p) && p[up.point] == ruleNames[it.rule] {
				add(item{up.rule, up.point + 1, up.from})
			}
		}
	}
}

// standing asks the grammar alone: the place of the first token that can't stand there, or of a bracket that opens one too many; OK if there is none.
func standing(tokens []api.Token) (int, api.Errno) {
	sets := [][]item{{{0, 0, 0}, {1, 0, 0}}}
	spread(sets)
	open := 0
	for _, token := range tokens {
		last := sets[len(sets)-1]
		if token.Kind == api.TokEnd {
			if slices.Contains(last, item{0, 0, 0}) || slices.Contains(last, item{1, 2, 0}) {
				return 0, api.OK
			}
			return token.At, api.ErrText
		}
		if strings.Contains("({[", token.Text) {
			open++
			if open > 40 {
				return token.At, api.ErrDeep
			}
		} else if strings.Contains(")}]", token.Text) {
			open--
		}
		var next []item
		for _, it := range last {
			if parts := ruleParts[it.rule]; it.point < len(parts) && stands(token, parts[it.point]) {
				next = append(next, item{it.rule, it.point + 1, it.from})
			}
		}
		if next == nil {
			return token.At, api.ErrText
		}
		sets = append(sets, next)
		spread(sets)
	}
	panic("no end")
}

// drawing makes trees and their tokens at once.
type drawing struct {
	*rand.Rand
}

// piece: a node, the tokens that are read as it, and how strongly it binds.
type piece struct {
	node     api.Node
	tokens   []string
	strength int
}

func (d drawing) pick(list ...string) string { return list[d.Intn(len(list))] }

func (d drawing) name() string {
	return d.pick("a", "b", "x1", "toto", "i9", "u", "main", "iff", "abcdefgh", "z0000000", "i8x")
}

func (d drawing) intType() (string, api.Type) {
	t := d.Intn(6)
	return intWords[t], api.Type{Int: byte(t)}
}

func (d drawing) literal() piece {
	word, t := d.intType()
	low, high := int64(0), int64(1)<<(8<<(t.Int/2))-1
	if t.Int%2 == 0 {
		low, high = -(high/2 + 1), high/2
	}
	v := low + d.Int63n(high-low+1)
	switch d.Intn(6) {
	case 0:
		v = low
	case 1:
		v = high
	case 2:
		v = 0
	}
	return piece{api.Node{Kind: api.Lit, Type: t, N: v}, []string{numeral(v) + word}, 11}
}

func numeral(v int64) string {
	if v < 0 {
		return "#" + strconv.FormatInt(v, 10)
	}
	return strconv.FormatInt(v, 10)
}

func (d drawing) length() (string, int64) {
	v := int64(d.Intn(20))
	if d.Intn(10) == 0 {
		v = 1<<31 - 1
	}
	return numeral(v) + "i32", v
}

func (d drawing) lvalue(depth int) piece {
	name := d.name()
	switch d.Intn(4) {
	case 0:
		if depth > 0 {
			p := d.expression(depth - 1)
			return piece{api.Node{Kind: api.Index, Name: name, Kids: []api.Node{p.node}}, slices.Concat([]string{name, "["}, p.tokens, []string{"]"}), 11}
		}
	case 1:
		field := d.name()
		return piece{api.Node{Kind: api.Member, Name: name, Field: field}, []string{name, ".", field}, 11}
	case 2:
		return piece{api.Node{Kind: api.Deref, Name: name}, []string{"*", name}, 11}
	}
	return piece{api.Node{Kind: api.Var, Name: name}, []string{name}, 11}
}

// within: an expression's tokens where it must bind so strongly; at times with brackets that needn't be.
func (d drawing) within(p piece, least int) []string {
	tokens := p.tokens
	if p.strength < least {
		tokens = slices.Concat([]string{"("}, tokens, []string{")"})
	}
	for d.Intn(12) == 0 {
		tokens = slices.Concat([]string{"("}, tokens, []string{")"})
	}
	return tokens
}

func (d drawing) expression(depth int) piece {
	if depth <= 0 || d.Intn(6) == 0 {
		if d.Intn(2) == 0 {
			return d.literal()
		}
		return d.lvalue(depth)
	}
	a := d.expression(depth - 1)
	switch d.Intn(8) {
	case 0:
		op := d.Intn(3)
		return piece{api.Node{Kind: api.Unary, Op: byte(op + 1), Kids: []api.Node{a.node}}, append([]string{[]string{"-", "~", "!"}[op]}, d.within(a, 11)...), 11}
	case 1:
		word, t := d.intType()
		return piece{api.Node{Kind: api.Cast, Type: t, Kids: []api.Node{a.node}}, append([]string{"(", word, ")"}, d.within(a, 11)...), 11}
	case 2:
		b, c := d.expression(depth-1), d.expression(depth-1)
		tokens := slices.Concat(d.within(a, 1), []string{"?"}, d.within(b, 0), []string{":"}, d.within(c, 0))
		return piece{api.Node{Kind: api.Cond, Kids: []api.Node{a.node, b.node, c.node}}, tokens, 0}
	case 3:
		return d.lvalue(depth)
	}
	b := d.expression(depth - 1)
	strength := 1 + d.Intn(len(byStrength))
	sign := d.pick(strings.Fields(byStrength[strength-1])...)
	tokens := slices.Concat(d.within(a, strength), []string{sign}, d.within(b, strength+1))
	return piece{api.Node{Kind: api.Binary, Op: operationOf[sign], Kids: []api.Node{a.node, b.node}}, tokens, strength}
}

func (d drawing) whole(depth int) ([]string, api.Node) {
	p := d.expression(depth)
	return d.within(p, 0), p.node
}

func (d drawing) variable(kind byte, depth int) piece {
	word, t := d.intType()
	n := api.Node{Kind: kind, Name: d.name(), Type: t}
	switch d.Intn(4) {
	case 0:
		n.Type, n.Field = api.Type{Kind: api.TStruct}, d.name()
		return piece{node: n, tokens: []string{"struct", n.Field, n.Name, ";"}}
	case 1:
		text, v := d.length()
		n.Type = api.Type{Kind: api.TArray, Int: t.Int, N: int(v)}
		return piece{node: n, tokens: []string{word, n.Name, "[", text, "]", ";"}}
	case 2:
		return piece{node: n, tokens: []string{word, n.Name, ";"}}
	}
	first := d.literal()
	tokens := first.tokens
	if kind == api.Let {
		tokens, first.node = d.whole(depth)
	}
	n.Kids = []api.Node{first.node}
	return piece{node: n, tokens: slices.Concat([]string{word, n.Name, "="}, tokens, []string{";"})}
}

func (d drawing) block(depth int) ([]string, api.Node) {
	n := api.Node{Kind: api.Block}
	tokens := []string{"{"}
	for range d.Intn(4) {
		p := d.statement(depth)
		n.Kids = append(n.Kids, p.node)
		tokens = append(tokens, p.tokens...)
	}
	return append(tokens, "}"), n
}

func (d drawing) statement(depth int) piece {
	tokens, n := d.whole(depth)
	switch d.Intn(8) {
	case 0:
		return piece{node: api.Node{Kind: api.Print, Kids: []api.Node{n}}, tokens: slices.Concat([]string{"print", "("}, tokens, []string{")", ";"})}
	case 1:
		return piece{node: api.Node{Kind: api.Ret, Kids: []api.Node{n}}, tokens: slices.Concat([]string{"return"}, tokens, []string{";"})}
	case 2:
		left := d.lvalue(depth)
		return piece{node: api.Node{Kind: api.Set, Kids: []api.Node{left.node, n}}, tokens: slices.Concat(left.tokens, []string{"="}, tokens, []string{";"})}
	case 3:
		return d.call(depth)
	case 4:
		if depth > 0 {
			text, first := d.block(depth - 1)
			p := piece{node: api.Node{Kind: api.If, Kids: []api.Node{n, first}}, tokens: slices.Concat([]string{"if", "("}, tokens, []string{")"}, text)}
			if d.Intn(2) == 0 {
				text, second := d.block(depth - 1)
				p.node.Kids = append(p.node.Kids, second)
				p.tokens = slices.Concat(p.tokens, []string{"else"}, text)
			}
			return p
		}
	case 5:
		if depth > 0 {
			low, first := d.length()
			high, last := d.length()
			text, body := d.block(depth - 1)
			n := api.Node{Kind: api.For, Name: d.name(), N: first, M: last, Kids: []api.Node{body}}
			return piece{node: n, tokens: slices.Concat([]string{"for", n.Name, "=", low, "to", high}, text)}
		}
	}
	return d.variable(api.Let, depth)
}

func (d drawing) call(depth int) piece {
	n := api.Node{Kind: api.Call, Name: d.name()}
	var tokens []string
	if d.Intn(2) == 0 {
		left := d.lvalue(depth)
		n.N, n.Kids = 1, []api.Node{left.node}
		tokens = append(left.tokens, "=")
	}
	tokens = append(tokens, n.Name, "(")
	for i := range d.Intn(4) {
		if i > 0 {
			tokens = append(tokens, ",")
		}
		if d.Intn(3) == 0 {
			p := d.lvalue(depth)
			n.Kids = append(n.Kids, api.Node{Kind: api.Ref, Kids: []api.Node{p.node}})
			tokens = append(append(tokens, "&"), p.tokens...)
			continue
		}
		text, arg := d.whole(depth)
		n.Kids = append(n.Kids, arg)
		tokens = append(tokens, text...)
	}
	return piece{node: n, tokens: append(tokens, ")", ";")}
}

func (d drawing) item(depth int) piece {
	word, t := d.intType()
	name := d.name()
	switch d.Intn(4) {
	case 0:
		n := api.Node{Kind: api.Struct, Name: name}
		tokens := []string{"struct", name, "{"}
		for range d.Intn(4) {
			word, t := d.intType()
			field := d.name()
			n.Kids = append(n.Kids, api.Node{Kind: api.Field, Type: t, Name: field})
			tokens = append(tokens, word, field, ";")
		}
		return piece{node: n, tokens: append(tokens, "}")}
	case 1:
		return d.variable(api.Global, depth)
	}
	n := api.Node{Kind: api.Func, Type: t, Name: name}
	tokens := []string{word, name, "("}
	for i := range d.Intn(4) {
		if i > 0 {
			tokens = append(tokens, ",")
		}
		word, t := d.intType()
		tokens = append(tokens, word)
		if d.Intn(2) == 0 {
			t.Kind = api.TRef
			tokens = append(tokens, "*")
		}
		param := d.name()
		n.Kids = append(n.Kids, api.Node{Kind: api.Param, Type: t, Name: param})
		tokens = append(tokens, param)
	}
	text, body := d.block(depth)
	n.Kids = append(n.Kids, body)
	return piece{node: n, tokens: slices.Concat(tokens, []string{")"}, text)}
}

func (d drawing) program(depth int) piece {
	p := piece{node: api.Node{Kind: api.Prog}}
	for range d.Intn(4) {
		one := d.item(depth)
		p.node.Kids = append(p.node.Kids, one.node)
		p.tokens = append(p.tokens, one.tokens...)
	}
	return p
}

// text: the tokens with blanks between, of each sort.
func (d drawing) text(tokens []string) string {
	var b strings.Builder
	for _, token := range tokens {
		b.WriteString(token)
		b.WriteString(d.pick(" ", " ", " ", "\n", "\t", "  ", " // )( 5 A\n"))
	}
	return b.String()
}

// spoilt: the tokens with one or two changed, left out, doubled, put elsewhere, or the last ones cut off.
func (d drawing) spoilt(tokens []string) []string {
	list := slices.Clone(tokens)
	for range 1 + d.Intn(2) {
		if len(list) == 0 {
			return []string{d.token()}
		}
		i, j := d.Intn(len(list)), d.Intn(len(list))
		switch d.Intn(6) {
		case 0:
			list = slices.Delete(list, i, i+1)
		case 1:
			list = slices.Insert(list, i, list[i])
		case 2:
			list[i], list[j] = list[j], list[i]
		case 3:
			list = list[:i]
		case 4:
			list = slices.Insert(list, i, d.token())
		default:
			list[i] = d.token()
		}
	}
	return list
}

const allSigns = "( ) { } [ ] ; , . ? : + - * / % & | ^ ~ ! < > = << >> <= >= == != && ||"

func (d drawing) token() string {
	return d.pick(append(strings.Fields(allSigns+" struct if else for to print return i8 u8 i16 u16 i32 u32 ( ) { } ; ="), "a", "b", "f", "5u8", "0i32", "3i32", "#-3i32", "4i16")...)
}

// tokensOf: those of a text that lex reads.
func tokensOf(s string) []api.Token {
	tokens, _, e := lex.Lex(s)
	if e != api.OK {
		panic(s)
	}
	return tokens
}

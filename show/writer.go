package show

import (
	"strconv"
	"strings"

	"burin/api"
	"burin/parse"
)

// How strongly an expression binds at least, where it needs no brackets about it; between them stand the strengths of parse.Signs.
const (
	loose = 0  // a whole expression: even a Cond
	tied  = 1  // what stands ahead of a question mark
	tight = 11 // what stands behind a sign of one number, or behind a cast
)

// intNames: the types' names, each at its own number.
var intNames = [...]string{"i8", "u8", "i16", "u16", "i32", "u32"}

// writer writes the nodes for which there is a text.
type writer struct {
	strings.Builder
}

// say writes words and signs, with a blank only between two that would be read as one else.
func (w *writer) say(words ...string) {
	for _, word := range words {
		if w.Len() > 0 && lettered(w.String()[w.Len()-1]) && lettered(word[0]) {
			w.WriteByte(' ')
		}
		w.WriteString(word)
	}
}

func (w *writer) program(n api.Node) {
	for _, kid := range n.Kids {
		w.item(kid)
	}
}

func (w *writer) item(n api.Node) {
	switch n.Kind {
	case api.Struct:
		w.say("struct", n.Name, "{")
		for _, kid := range n.Kids {
			w.say(intNames[kid.Type.Int], kid.Name, ";")
		}
		w.say("}")
	case api.Func:
		last := len(n.Kids) - 1
		w.say(intNames[n.Type.Int], n.Name)
		w.listed(n.Kids[:last], w.param)
		w.block(n.Kids[last])
	default:
		w.variable(n)
	}
}

func (w *writer) param(n api.Node) {
	w.say(intNames[n.Type.Int])
	if n.Type.Kind == api.TRef {
		w.say("*")
	}
	w.say(n.Name)
}

func (w *writer) variable(n api.Node) {
	if n.Type.Kind == api.TStruct {
		w.say("struct", n.Field, n.Name, ";")
		return
	}
	w.say(intNames[n.Type.Int], n.Name)
	if n.Type.Kind == api.TArray {
		w.say("[", number(api.I32, int64(n.Type.N)), "]")
	}
	for _, kid := range n.Kids {
		w.say("=")
		w.expression(kid, loose)
	}
	w.say(";")
}

func (w *writer) block(n api.Node) {
	w.say("{")
	for _, kid := range n.Kids {
		w.statement(kid)
	}
	w.say("}")
}

func (w *writer) statement(n api.Node) {
	switch n.Kind {
	case api.Let:
		w.variable(n)
	case api.If:
		w.choice(n)
	case api.For:
		w.say("for", n.Name, "=", number(api.I32, n.N), "to", number(api.I32, n.M))
		w.block(n.Kids[0])
	case api.Print:
		w.say("print", "(")
		w.expression(n.Kids[0], loose)
		w.say(")", ";")
	case api.Ret:
		w.say("return")
		w.expression(n.Kids[0], loose)
		w.say(";")
	case api.Call:
		w.call(n)
	default:
		w.lvalue(n.Kids[0])
		w.say("=")
		w.expression(n.Kids[1], loose)
		w.say(";")
	}
}

func (w *writer) choice(n api.Node) {
	w.say("if", "(")
	w.expression(n.Kids[0], loose)
	w.say(")")
	w.block(n.Kids[1])
	if len(n.Kids) > 2 {
		w.say("else")
		w.block(n.Kids[2])
	}
}

func (w *writer) call(n api.Node) {
	if n.N == 1 {
		w.lvalue(n.Kids[0])
		w.say("=")
	}
	w.say(n.Name)
	w.listed(n.Kids[n.N:], w.argument)
	w.say(";")
}

func (w *writer) argument(n api.Node) {
	if n.Kind == api.Ref {
		w.say("&")
		n = n.Kids[0]
	}
	w.expression(n, loose)
}

func (w *writer) listed(list []api.Node, write func(api.Node)) {
	w.say("(")
	for i, n := range list {
		if i > 0 {
			w.say(",")
		}
		write(n)
	}
	w.say(")")
}

// expression writes brackets about what binds less strongly than it must where it stands.
func (w *writer) expression(n api.Node, least int) {
	if strength(n) < least {
		w.say("(")
		w.expression(n, loose)
		w.say(")")
		return
	}
	switch n.Kind {
	case api.Lit:
		w.say(number(n.Type.Int, n.N))
	case api.Unary:
		w.say(unarySign(n.Op))
		w.expression(n.Kids[0], tight)
	case api.Binary:
		sign, strength := parse.Signs(n.Op)
		w.expression(n.Kids[0], strength)
		w.say(sign)
		w.expression(n.Kids[1], strength+1)
	case api.Cast:
		w.say("(", intNames[n.Type.Int], ")")
		w.expression(n.Kids[0], tight)
	case api.Cond:
		w.expression(n.Kids[0], tied)
		w.say("?")
		w.expression(n.Kids[1], loose)
		w.say(":")
		w.expression(n.Kids[2], loose)
	default:
		w.lvalue(n)
	}
}

func (w *writer) lvalue(n api.Node) {
	switch n.Kind {
	case api.Index:
		w.say(n.Name, "[")
		w.expression(n.Kids[0], loose)
		w.say("]")
	case api.Member:
		w.say(n.Name, ".", n.Field)
	case api.Deref:
		w.say("*", n.Name)
	default:
		w.say(n.Name)
	}
}

// strength: how strongly an expression binds.
func strength(n api.Node) int {
	switch n.Kind {
	case api.Cond:
		return loose
	case api.Binary:
		_, strength := parse.Signs(n.Op)
		return strength
	}
	return tight
}

// unarySign: the sign of an operation of one number; of every other op nothing.
func unarySign(op byte) string {
	switch op {
	case api.Neg:
		return "-"
	case api.Not:
		return "~"
	case api.Bang:
		return "!"
	}
	return ""
}

// number: one below 0 has the minus of its digits behind a mark.
func number(t byte, v int64) string {
	digits := strconv.FormatInt(v, 10)
	if v < 0 {
		digits = "#" + digits
	}
	return digits + intNames[t]
}

// lettered: is it a byte of a word, a name or a number's end?
func lettered(c byte) bool { return 'a' <= c && c <= 'z' || '0' <= c && c <= '9' }

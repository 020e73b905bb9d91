package parse

import (
	"burin/api"
	"burin/lex"
)

// What a reader gives up with, by panic: each is the place of the token at fault.
type (
	tooLong   int // there are more nodes than may be
	tooDeep   int // more brackets are open than may be
	misplaced int // it can't stand there
)

// reader goes through the tokens of a text, of which all behind it stood where they may.
type reader struct {
	tokens []api.Token // the last one is the end, which is never taken
	next   int         // the number of the token at hand
	open   int         // brackets behind it that aren't closed
	nodes  int
}

func (r *reader) here() api.Token { return r.tokens[r.next] }

// is: is this word or sign at hand? No name and no number has the text of either.
func (r *reader) is(text string) bool { return r.here().Text == text }

// take goes on behind the token at hand. A bracket too many is told as soon as it is reached, since that goes ahead of whether it can stand there.
func (r *reader) take() {
	switch {
	case opens(r.here()):
		r.open++
	case closes(r.here()):
		r.open--
	}
	r.next++
	if opens(r.here()) && r.open == api.MaxDepth {
		panic(tooDeep(r.here().At))
	}
}

// try takes a word or sign, if it is at hand.
func (r *reader) try(text string) bool {
	found := r.is(text)
	if found {
		r.take()
	}
	return found
}

func (r *reader) need(text string) {
	if !r.try(text) {
		r.refuse()
	}
}

func (r *reader) refuse() { panic(misplaced(r.here().At)) }

// node counts a node as soon as it is known that there is one: that bounds how deep the reader stands within itself, too.
func (r *reader) node(n api.Node) api.Node {
	r.nodes++
	if r.nodes > api.MaxNodes {
		panic(tooLong(r.here().At))
	}
	return n
}

func (r *reader) name() string {
	token := r.here()
	if token.Kind != api.TokName {
		r.refuse()
	}
	r.take()
	return token.Text
}

func (r *reader) number() api.Token {
	token := r.here()
	if token.Kind != api.TokNumber {
		r.refuse()
	}
	r.take()
	return token
}

// count reads a length, or a number of a for.
func (r *reader) count() int64 {
	token := r.here()
	if token.Kind != api.TokNumber || token.Int != api.I32 || token.N < 0 {
		r.refuse()
	}
	r.take()
	return token.N
}

// isInt: is the name of a type at hand?
func (r *reader) isInt() bool {
	_, ok := lex.Int(r.here().Text)
	return ok
}

func (r *reader) intType() api.Type {
	t, ok := lex.Int(r.here().Text)
	if !ok {
		r.refuse()
	}
	r.take()
	return api.Type{Kind: api.TInt, Int: t}
}

// listed reads what stands between brackets, with commas between.
func (r *reader) listed(read func() api.Node) []api.Node {
	r.need("(")
	if r.try(")") {
		return nil
	}
	list := []api.Node{read()}
	for r.try(",") {
		list = append(list, read())
	}
	r.need(")")
	return list
}

// repeated reads what stands between curly brackets.
func (r *reader) repeated(read func() api.Node) []api.Node {
	r.need("{")
	var list []api.Node
	for !r.try("}") {
		list = append(list, read())
	}
	return list
}

func opens(token api.Token) bool {
	return token.Text == "(" || token.Text == "{" || token.Text == "["
}

func closes(token api.Token) bool {
	return token.Text == ")" || token.Text == "}" || token.Text == "]"
}

package gen

import (
	"burin/api"
	"burin/tree"
)

func integer(t byte) api.Type { return api.Type{Kind: api.TInt, Int: t} }

func number(t byte, v int64) api.Node {
	return api.Node{Kind: api.Lit, Type: integer(t), N: v}
}

func castTo(t byte, kid api.Node) api.Node {
	return api.Node{Kind: api.Cast, Type: integer(t), Kids: []api.Node{kid}}
}

func binary(op byte, a, b api.Node) api.Node {
	return api.Node{Kind: api.Binary, Op: op, Kids: []api.Node{a, b}}
}

// node: one that has no other fields.
func node(kind byte, kids ...api.Node) api.Node {
	return api.Node{Kind: kind, Kids: kids}
}

func mainOf(block api.Node) api.Node {
	return api.Node{Kind: api.Func, Name: "main", Type: integer(api.I32), Kids: []api.Node{block}}
}

// sizeOf: the nodes of all trees of a list.
func sizeOf(list []api.Node) int {
	sum := 0
	for _, n := range list {
		sum += tree.Size(n)
	}
	return sum
}

package reduce

import (
	"iter"
	"slices"

	"burin/api"
	"burin/tree"
)

// lighter goes through the candidates of a program that is right; ints are the types of its nodes, by their numbers.
func lighter(n api.Node, ints []byte) iter.Seq[api.Node] {
	return func(yield func(api.Node) bool) {
		weight := tree.Weight(n)
		for id, node := range numbered(nil, n) {
			for _, list := range instead(node, ints[id]) {
				c, e := tree.Put(n, id, list)
				if e == api.OK && tree.Weight(c) < weight && !yield(c) {
					return
				}
			}
		}
	}
}

// numbered adds the nodes of a tree to a list, in the order of their numbers.
func numbered(list []api.Node, n api.Node) []api.Node {
	list = append(list, n)
	for _, kid := range n.Kids {
		list = numbered(list, kid)
	}
	return list
}

// nothing: the node is left out.
func nothing() [][]api.Node { return [][]api.Node{nil} }

// instead: what may stand in the place of a node whose type that is, if it has one; the lists borrow from the node. Of the root, a Prog, nothing is said.
func instead(n api.Node, whole byte) [][]api.Node {
	switch n.Kind {
	case api.Struct, api.Global:
		return nothing()
	case api.Func:
		if n.Name != "main" {
			return nothing()
		}
	case api.Block:
		return halves(n)
	case api.Let, api.Set, api.If, api.For, api.Print, api.Call, api.Ret:
		return append(nothing(), within(n)...)
	case api.Lit:
		return numbers(n)
	case api.Unary, api.Binary, api.Cast, api.Cond:
		return parts(n, whole)
	}
	return nil
}

// halves: a Block of 4 statements or more without its first half, and without as many behind that.
func halves(n api.Node) [][]api.Node {
	half := len(n.Kids) / 2
	if half < 2 {
		return nil
	}
	late, early := n, n
	late.Kids = n.Kids[half:]
	early.Kids = slices.Concat(n.Kids[:half], n.Kids[2*half:])
	return [][]api.Node{{late}, {early}}
}

// within: what is left of a statement without what stands about it.
func within(n api.Node) [][]api.Node {
	var lists [][]api.Node
	switch n.Kind {
	case api.If:
		for _, block := range n.Kids[1:] {
			lists = append(lists, block.Kids)
		}
	case api.For:
		lists = append(lists, n.Kids[0].Kids)
	case api.Let:
		if len(n.Kids) > 0 {
			n.Kids = nil
			lists = append(lists, []api.Node{n})
		}
	}
	return lists
}

// numbers: the same Lit with 0, and with half of its number. (Of 1 and -1 that is 0 as well: both stand.)
func numbers(n api.Node) [][]api.Node {
	if n.N == 0 {
		return nil
	}
	zero, half := n, n
	zero.N, half.N = 0, n.N/2
	return [][]api.Node{{zero}, {half}}
}

// parts: each kid of an expression in its place, then 0.
func parts(n api.Node, whole byte) [][]api.Node {
	var lists [][]api.Node
	for _, kid := range n.Kids {
		lists = append(lists, []api.Node{kid})
	}
	zero := api.Node{Kind: api.Lit, Type: api.Type{Kind: api.TInt, Int: whole}}
	return append(lists, []api.Node{zero})
}

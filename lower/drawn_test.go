package lower

import (
	"math/rand"
	"slices"
	"testing"

	"burin/api"
	"burin/gen"
	"burin/safe"
	"burin/show"
	"burin/tree"
	"burin/types"
)

// drawn: a program of layer 12.
func drawn(t *testing.T, r *rand.Rand, size int) api.Node {
	t.Helper()
	list := make([]uint64, 20+r.Intn(600))
	for i := range list {
		list[i] = r.Uint64() >> r.Intn(64)
	}
	c := gen.Config{Funcs: r.Intn(5), Stats: 1 + r.Intn(8), Depth: 1 + r.Intn(4), Size: 20 + r.Intn(size-19)}
	n, _, e := gen.Make(c, list)
	if e != api.OK {
		t.Fatalf("Make(%v): %d", c, e)
	}
	return n
}

// text tells a tree; one that has no text by its kinds.
func text(n api.Node) string {
	if s, e := show.Text(n); e == api.OK {
		return s
	}
	kinds, _ := tree.List(n)
	return string(kinds)
}

// P15.2, P5: programs from draws halt, and so does their code.
func TestDrawn(t *testing.T) {
	r := rand.New(rand.NewSource(15))
	prints, kinds := 0, map[byte]int{}
	for i := range 2500 {
		size := 400
		if i%10 == 0 {
			size = 2000
		}
		n := drawn(t, r, size)
		steps, at, e := safe.Check(n)
		o := hold(t, text(n), n)
		if e != api.OK || !o.Halted || o.Steps > steps {
			t.Fatalf("%s: %+v, %d at %d", text(n), o, e, at)
		}
		if tree.Size(n) <= 500 && len(o.Trace) > 3 {
			prints++
		}
		list, _ := tree.List(n)
		for _, kind := range list {
			kinds[kind]++
		}
	}
	for kind := api.Prog; kind <= api.Ref; kind++ {
		if kinds[kind] < 100 {
			t.Errorf("%d nodes of the kind %d", kinds[kind], kind)
		}
	}
	if prints < 300 {
		t.Errorf("%d programs print more than a little", prints)
	}
}

// The 64 lists of draws that the chapter of layer 12 names.
func TestNamedLists(t *testing.T) {
	for i := range uint64(64) {
		list := make([]uint64, 200)
		for k := range list {
			list[k] = (uint64(k) + 1) * (i + 7) * 2654435761 / 128
		}
		n, _, e := gen.Make(gen.Config{Funcs: 3, Stats: 5, Depth: 3, Size: 300}, list)
		if e != api.OK || !hold(t, text(n), n).Halted {
			t.Errorf("list %d: %d", i, e)
		}
	}
}

// seeds: programs that have, close together, what those of layer 12 seldom have.
var seeds = []string{
	"struct s { i8 x; u8 y; } u8 g = 3u8; i8 a[3i32]; struct s v; " +
		"i8 f(i8 p, u8 *q) { *q = *q + g; if (p > 1i8) { print(*q); return p; } else { print(p); } } " +
		"i32 main() { i8 x = -1i8; u8 y[2i32]; for i = 0i32 to 3i32 { a[i] = f(x, &y[1i32]); x = x + (i8)i + 1i8; print(x ? a[i] : v.x); } " +
		"v.y = g; f(~x, &v.y); print(!x || v.y && 1u8 << 3i8 == 8u8); print(a[(u8)0i32] * a[2i32]); return (i32)x; }",
	"u8 f(u8 *p) { *p = *p + 1u8; return *p; } u8 g(u8 a, u8 b, u8 *c, u8 d) { b = f(&b); f(&*c); d = f(&a); print(a); print(b); print(*c); print(d); b = b * 2u8; f(&b); return b; } " +
		"i32 main() { u8 x = 30u8; u8 z = 1u8; x = g(10u8, x, &x, x); for i = 0i32 to 2i32 { u8 y; u8 x = x; y = g(y, z, &y, x); z = g(x, y, &z, z); u8 b[4i32]; b[i] = f(&b[3i32]); print(b[3i32]); } print(x); print(z); }",
	"i32 f(i32 n) { i32 s; for i = 0i32 to 4i32 { for j = 3i32 to 3i32 { print(j); } s = s + n; if (i == n) { return s; } else { s = s * 2i32 - i; } } return 100i32; } i32 main() { i32 x; for n = 0i32 to 5i32 { x = f(n); print(x); x = x && (n || x) ? x : n; if (x) { i32 x = x + n; print(x); } } return x; }",
	"u8 m[16i32]; u16 h; i32 main() { for i = 0i32 to 16i32 { m[i] = (u8)(i * i); } for i = 1i32 to 15i32 { h = h * 31u16 + (u16)m[m[i] % 16u8]; u16 k[3i32]; k[h % 3u16] = h; print(k[0i32] + k[1i32] * 2u16 + k[2i32] * 3u16); } return (i32)h % 7i32; }",
}

// all: the nodes of a tree.
func all(n *api.Node) []*api.Node {
	list := []*api.Node{n}
	for i := range n.Kids {
		list = append(list, all(&n.Kids[i])...)
	}
	return list
}

// spoiler changes programs at a place.
type spoiler struct{ *rand.Rand }

// number: any of a type, mostly small or about its edges.
func (r spoiler) number(typ byte) int64 {
	list := edges(min(typ, api.U32))
	return list[r.Intn(len(list))]
}

func (r spoiler) change(n *api.Node) {
	list := all(n)
	at, other := list[r.Intn(len(list))], list[r.Intn(len(list))]
	switch r.Intn(10) {
	case 0:
		*at = tree.Copy(*other)
	case 1:
		at.Name, at.Field = other.Name, other.Field
	case 2:
		at.Type = other.Type
	case 3:
		if len(at.Kids) > 0 {
			at.Kids = slices.Delete(at.Kids, 0, 1)
		}
	case 4:
		at.Kids = slices.Insert(at.Kids, r.Intn(len(at.Kids)+1), tree.Copy(*other))
	case 5:
		if len(at.Kids) > 1 {
			k := r.Intn(len(at.Kids) - 1)
			at.Kids[k], at.Kids[k+1] = at.Kids[k+1], at.Kids[k]
		}
	case 6:
		if at.Kind == api.Block {
			v := r.number(byte(r.Intn(6)))
			ret := api.Node{Kind: api.Ret, Kids: []api.Node{{Kind: api.Lit, Type: api.Type{Int: byte(r.Intn(6))}, N: v}}}
			at.Kids = slices.Insert(at.Kids, r.Intn(len(at.Kids)+1), ret)
		}
	default:
		r.alter(list)
	}
}

// alter changes what one of the nodes does, so that it stays right as a rule.
func (r spoiler) alter(list []*api.Node) {
	for range 20 {
		at := list[r.Intn(len(list))]
		switch at.Kind {
		case api.Lit:
			at.N = r.number(at.Type.Int)
		case api.For:
			at.N = int64(r.Intn(3))
			at.M = at.N + int64(r.Intn(6)) - 1
		case api.Unary:
			at.Op = byte(1 + r.Intn(3))
		case api.Binary:
			at.Op = byte(1 + r.Intn(18))
		case api.Global, api.Let:
			at.Type.N += r.Intn(3) - 1
		default:
			continue
		}
		return
	}
}

// P15.1, P15.2, P1: programs that are changed step by step; what is no program any more is refused as types.Check says, what is one is run on both sides.
func TestSpoilt(t *testing.T) {
	r := spoiler{rand.New(rand.NewSource(16))}
	var trapped [6]int
	wrong := map[api.Errno]int{}
	halted, spent, exits := 0, 0, 0
	for i := range 700 {
		var n api.Node
		if k := i % 8; k < len(seeds) {
			n = read(t, seeds[k])
		} else {
			n = drawn(t, r.Rand, 150)
		}
		for range 60 {
			m := tree.Copy(n)
			r.change(&m)
			if at, e := types.Check(m); e != api.OK {
				refused(t, text(m), m, at, e)
				wrong[e]++
				continue
			}
			n = m
			o := holdWithin(t, text(n), n, 2000)
			switch {
			case o.Halted:
				halted++
			case o.Fuel:
				spent++
			default:
				trapped[o.Trap]++
			}
			if o.Exit != 0 {
				exits++
			}
		}
	}
	t.Logf("%d halted, %d spent, traps %v, %d exits, wrong %v", halted, spent, trapped, exits, wrong)
	for _, trap := range []api.Trap{api.TrapOver, api.TrapZero, api.TrapShift, api.TrapIndex} {
		if trapped[trap] < 100 {
			t.Errorf("%d programs with the trap %d", trapped[trap], trap)
		}
	}
	for _, e := range []api.Errno{api.ErrArg, api.ErrForm, api.ErrName, api.ErrTwice, api.ErrType, api.ErrCall} {
		if wrong[e] < 5 {
			t.Errorf("%d trees with the error %d", wrong[e], e)
		}
	}
	if halted < 2000 || exits < 100 || spent < 5 {
		t.Errorf("%d programs halt, %d with an exit, %d are spent", halted, exits, spent)
	}
}

package oracle_test

import (
	"fmt"
	"math/rand"
	"reflect"
	"slices"
	"testing"

	"burin/api"
	"burin/code"
	"burin/ir"
	"burin/oracle"
	"burin/tree"
	"burin/types"
)

// withRoom: the same list with room behind it, which holds numbers that nobody should write over.
func withRoom[T any](l []T, fill T) []T {
	wide := append(slices.Clone(l), fill, fill, fill)
	return wide[:len(l)]
}

// roomy: the same code, each of whose lists has room behind it.
func roomy(c api.Code) api.Code {
	c = ir.Copy(c)
	for n := range c.Fns {
		f := &c.Fns[n]
		for k := range f.Parts {
			p := &f.Parts[k]
			for i := range p.Insts {
				p.Insts[i].Args = withRoom(p.Insts[i].Args, -7)
			}
			p.Insts = withRoom(p.Insts, api.Inst{Op: 99})
		}
		f.Slots, f.Parts = withRoom(f.Slots, -7), withRoom(f.Parts, api.Part{Cond: -99})
	}
	c.Globals, c.Inits, c.Fns = withRoom(c.Globals, -7), withRoom(c.Inits, -7), withRoom(c.Fns, api.Fn{Regs: -99})
	return c
}

// wholeCode: code with the room behind its lists.
func wholeCode(c api.Code) api.Code {
	c = api.Code{Globals: slices.Clone(c.Globals[:cap(c.Globals)]), Inits: slices.Clone(c.Inits[:cap(c.Inits)]), Fns: slices.Clone(c.Fns[:cap(c.Fns)])}
	for n := range c.Fns {
		f := &c.Fns[n]
		f.Slots, f.Parts = slices.Clone(f.Slots[:cap(f.Slots)]), slices.Clone(f.Parts[:cap(f.Parts)])
		for k := range f.Parts {
			p := &f.Parts[k]
			p.Insts = slices.Clone(p.Insts[:cap(p.Insts)])
			for i := range p.Insts {
				p.Insts[i].Args = slices.Clone(p.Insts[i].Args[:cap(p.Insts[i].Args)])
			}
		}
	}
	return c
}

func blot[T any](l []T, with T) {
	l = l[:cap(l)]
	for i := range l {
		l[i] = with
	}
}

// blotCode writes over all of code, the room behind its lists, too.
func blotCode(c api.Code) {
	for _, f := range c.Fns[:cap(c.Fns)] {
		for _, p := range f.Parts[:cap(f.Parts)] {
			for _, i := range p.Insts[:cap(p.Insts)] {
				blot(i.Args, -5)
			}
			blot(p.Insts, api.Inst{Op: 77, Imm: -5})
		}
		blot(f.Slots, -5)
		blot(f.Parts, api.Part{Cond: -55})
	}
	blot(c.Globals, -5)
	blot(c.Inits, -5)
	blot(c.Fns, api.Fn{Regs: -5})
}

// P2, and the rules of memory, of Optimize: the same answer each time; what is handed in stays as it was, its spare room too, and may be written over behind the call; an answer may be, too.
func TestMemoryOfOptimize(t *testing.T) {
	r := rand.New(rand.NewSource(33))
	for _, c := range some(t, r, 60) {
		for _, passes := range []byte{0, 64, 1 << r.Intn(6), byte(r.Intn(64)), all} {
			faults := byte(r.Intn(256)) * byte(r.Intn(2))
			want := fmt.Sprint(optimized(t, c, passes, faults))
			given := roomy(c)
			before := wholeCode(given)
			first, second := optimized(t, given, passes, faults), optimized(t, given, passes, faults)
			if !reflect.DeepEqual(wholeCode(given), before) {
				t.Fatalf("Optimize(%+v, %d, %d) changed what was handed in", c, passes, faults)
			}
			blotCode(given)
			if fmt.Sprint(first) != want {
				t.Fatalf("Optimize(%+v, %d, %d) shares memory with what was handed in, or isn't always the same", c, passes, faults)
			}
			blotCode(first)
			if fmt.Sprint(second) != want {
				t.Fatalf("Optimize(%+v, %d, %d) shares memory with an earlier answer", c, passes, faults)
			}
		}
	}
}

// roomyTree: the same tree, each of whose lists has room behind it.
func roomyTree(n api.Node) api.Node {
	kids := make([]api.Node, 0, len(n.Kids)+2)
	for _, k := range n.Kids {
		kids = append(kids, roomyTree(k))
	}
	blot(kids[len(kids):], api.Node{Kind: 99})
	n.Kids = kids
	return n
}

func wholeTree(n api.Node) api.Node {
	kids := slices.Clone(n.Kids[:cap(n.Kids)])
	for i := range kids {
		kids[i] = wholeTree(kids[i])
	}
	n.Kids = kids
	return n
}

func blotTree(n api.Node) {
	for _, k := range n.Kids {
		blotTree(k)
	}
	blot(n.Kids, api.Node{Kind: 88})
}

func copyImage(im code.Image) code.Image {
	return code.Image{Words: slices.Clone(im.Words), Starts: slices.Clone(im.Starts), Frames: slices.Clone(im.Frames), Data: slices.Clone(im.Data)}
}

func blotImage(im code.Image) {
	blot(im.Words, 5)
	blot(im.Starts, -5)
	blot(im.Frames, -5)
	blot(im.Data, -5)
}

func copyVerdict(v oracle.Verdict) oracle.Verdict {
	v.Want.Trace, v.Got.Trace = slices.Clone(v.Want.Trace), slices.Clone(v.Got.Trace)
	return v
}

// P2, and the rules of memory, of Compile and Judge.
func TestMemoryOfVerdicts(t *testing.T) {
	r := rand.New(rand.NewSource(34))
	traced := 0
	for n := range 300 {
		p := drawn(t, r, 300)
		if n < len(texts) {
			p = read(t, texts[n])
		}
		passes, faults := byte(r.Intn(256)), byte(r.Intn(256))*byte(r.Intn(2))
		image, verdict := copyImage(compiled(t, p, passes, faults)), copyVerdict(oracle.Judge(p, passes, faults))
		given := roomyTree(p)
		before := wholeTree(given)
		im1, im2 := compiled(t, given, passes, faults), compiled(t, given, passes, faults)
		v1, v2 := oracle.Judge(given, passes, faults), oracle.Judge(given, passes, faults)
		if !reflect.DeepEqual(wholeTree(given), before) {
			t.Fatalf("what was handed in is changed: %+v, passes %d, faults %d", p, passes, faults)
		}
		blotTree(given)
		if !reflect.DeepEqual(copyImage(im1), image) || !reflect.DeepEqual(copyVerdict(v1), verdict) {
			t.Fatalf("%+v, passes %d, faults %d: %+v, %+v; first it was %+v, %+v", p, passes, faults, im1, v1, image, verdict)
		}
		traced += len(v1.Want.Trace)
		blotImage(im1)
		blot(v1.Want.Trace, -5)
		if !slices.Equal(v1.Got.Trace, verdict.Got.Trace) {
			t.Fatalf("the traces of %+v share memory", v1)
		}
		blot(v1.Got.Trace, -6)
		if !reflect.DeepEqual(copyImage(im2), image) || !reflect.DeepEqual(copyVerdict(v2), verdict) {
			t.Fatalf("%+v, passes %d, faults %d: an answer shares memory with an earlier one", p, passes, faults)
		}
	}
	if traced < 300 {
		t.Errorf("%d numbers printed", traced)
	}
}

// isRight: what types.Check says of a tree.
func isRight(n api.Node) (ok bool, at int, e api.Errno) {
	at, e = types.Check(n)
	return e == api.OK, at, e
}

// P1, P26.2, P26.3: trees that are no program: types' error and node, and nothing else.
func TestNoPrograms(t *testing.T) {
	deep := api.Node{Kind: api.Block}
	for range 100000 {
		deep = api.Node{Kind: api.Block, Kids: []api.Node{deep}}
	}
	endless := api.Node{Kind: api.Block, Kids: make([]api.Node, 1)}
	endless.Kids[0] = endless
	fine := read(t, texts[len(texts)-1])
	for n, p := range []api.Node{
		{}, {Kind: 255}, {Kind: api.Prog}, {Kind: api.Lit, N: 5}, {Kind: api.Func, Name: "main"}, deep, endless,
		{Kind: api.Prog, Kids: []api.Node{fine}}, {Kind: api.Prog, Kids: slices.Repeat([]api.Node{{Kind: api.Global, Name: "x"}}, api.MaxNodes)},
		{Kind: api.Prog, Kids: fine.Kids[:1]}, {Kind: api.Prog, Kids: slices.Concat(fine.Kids, fine.Kids)},
	} {
		for _, passes := range []byte{0, all, 255} {
			for _, faults := range []byte{0, passes, 255} {
				im, at, e := oracle.Compile(p, passes, faults)
				v := oracle.Judge(p, passes, faults)
				if e == api.OK || !reflect.DeepEqual(im, code.Image{}) || !reflect.DeepEqual(v, oracle.Verdict{At: at, E: e}) {
					t.Errorf("tree %d: %d at %d; Judge %+v", n, e, at, v)
				}
				if _, wantAt, want := isRight(p); at != wantAt || e != want {
					t.Errorf("tree %d: %d at %d; want %d at %d", n, e, at, want, wantAt)
				}
			}
		}
	}
	r := rand.New(rand.NewSource(35))
	refused := 0
	for range 3000 {
		p := mutant(r, mutant(r, drawn(t, r, 100)))
		if r.Intn(3) == 0 {
			if q, e := tree.Put(p, 1+r.Intn(tree.Size(p)), []api.Node{{Kind: byte(r.Intn(30)), Op: byte(r.Intn(20)), N: int64(r.Intn(3))}}); e == api.OK {
				p = q
			}
		}
		ok, wantAt, want := isRight(p)
		im, at, e := oracle.Compile(p, byte(r.Intn(256)), byte(r.Intn(256)))
		if at != wantAt || e != want || !ok && !reflect.DeepEqual(im, code.Image{}) {
			t.Fatalf("Compile(%+v): %d at %d; want %d at %d", p, e, at, want, wantAt)
		}
		if !ok {
			refused++
		}
	}
	if refused < 500 {
		t.Errorf("%d were refused", refused)
	}
}

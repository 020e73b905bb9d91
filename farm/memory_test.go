package farm_test

import (
	"cmp"
	"math/rand"
	"reflect"
	"slices"
	"strings"
	"testing"

	"burin/api"
	"burin/farm"
	"burin/oracle"
	"burin/tree"
)

// piece of memory: from a place up to another.
type piece struct{ from, to uintptr }

// pieceOf: that of a list, its spare room too.
func pieceOf[T any](list []T) []piece {
	if cap(list) == 0 {
		return nil
	}
	v := reflect.ValueOf(list)
	return []piece{{v.Pointer(), v.Pointer() + uintptr(cap(list))*v.Type().Elem().Size()}}
}

func piecesOf(n api.Node) []piece {
	list := pieceOf(n.Kids)
	for _, kid := range n.Kids {
		list = append(list, piecesOf(kid)...)
	}
	return list
}

func piecesOfVerdict(v oracle.Verdict) []piece {
	return append(pieceOf(v.Want.Trace), pieceOf(v.Got.Trace)...)
}

func piecesOfReport(r farm.Report) []piece {
	return slices.Concat(piecesOf(r.Program), piecesOf(r.Reduced), piecesOfVerdict(r.Verdict))
}

// apart: no two of them share a byte.
func apart(t *testing.T, list []piece) {
	t.Helper()
	slices.SortFunc(list, func(a, b piece) int { return cmp.Compare(a.from, b.from) })
	for i := range len(list) - 1 {
		if list[i].to > list[i+1].from {
			t.Fatal("two lists share memory")
		}
	}
}

func copyVerdict(v oracle.Verdict) oracle.Verdict {
	v.Want.Trace, v.Got.Trace = slices.Clone(v.Want.Trace), slices.Clone(v.Got.Trace)
	return v
}

func copyReport(r farm.Report) farm.Report {
	r.Program, r.Reduced, r.Verdict = tree.Copy(r.Program), tree.Copy(r.Reduced), copyVerdict(r.Verdict)
	return r
}

func sameReport(a, b farm.Report) bool {
	return tree.Same(a.Program, b.Program) && tree.Same(a.Reduced, b.Reduced) && reflect.DeepEqual(a.Verdict, b.Verdict) && a.Used == b.Used && a.Steps == b.Steps && a.Text == b.Text
}

// blot writes over all of a list, its spare room too.
func blot[T any](list []T, with T) {
	list = list[:cap(list)]
	for i := range list {
		list[i] = with
	}
}

func blotTree(n api.Node) {
	for _, kid := range n.Kids {
		blotTree(kid)
	}
	blot(n.Kids, api.Node{Kind: 88, Name: "blot"})
}

func blotVerdict(v oracle.Verdict) {
	blot(v.Want.Trace, -5)
	blot(v.Got.Trace, -6)
}

// P2, and the rules of memory, of Run: the same answer each time; the draws stay as they were, their spare room too, and may be written over behind the call; so may the answer, and each of its parts without a change of another one.
func TestMemoryOfRun(t *testing.T) {
	r := rand.New(rand.NewSource(38))
	mismatches := 0
	for range 250 {
		s := anyScript(r)
		s.Draws = append(s.Draws, 71, 72, 73)[:len(s.Draws)]
		before := slices.Clone(s.Draws[:cap(s.Draws)])
		first, e1 := farm.Run(s)
		want := copyReport(first)
		second, e2 := farm.Run(s)
		third, e3 := farm.Run(s)
		if e1 != api.OK || e2 != api.OK || e3 != api.OK || !slices.Equal(s.Draws[:cap(s.Draws)], before) {
			t.Fatalf("%d, %d, %d; or the draws are changed", e1, e2, e3)
		}
		apart(t, slices.Concat(piecesOfReport(first), piecesOfReport(second), piecesOfReport(third), pieceOf(s.Draws)))
		blot(s.Draws, 5)
		blotTree(first.Program)
		blotVerdict(first.Verdict)
		if !tree.Same(first.Reduced, want.Reduced) || first.Text != want.Text {
			t.Fatalf("%s: Reduced shares memory with what stands beside it", want.Text)
		}
		blotTree(second.Reduced)
		if !tree.Same(second.Program, want.Program) || !reflect.DeepEqual(second.Verdict, want.Verdict) {
			t.Fatalf("%s: Reduced shares memory with what stands beside it", want.Text)
		}
		blotVerdict(second.Verdict)
		if !sameReport(third, want) {
			t.Fatalf("%s: an answer shares memory with the draws, or with an earlier answer", want.Text)
		}
		if want.Verdict.Kind == oracle.Mismatch {
			mismatches++
		}
	}
	if t.Logf("%d mismatches", mismatches); mismatches < 20 {
		t.Errorf("%d mismatches", mismatches)
	}
}

// P2, and the rules of memory, of Replay: the same answer each time, of any text of the same bytes; the traces of both verdicts share no memory.
func TestMemoryOfReplay(t *testing.T) {
	r := rand.New(rand.NewSource(39))
	traced := 0
	for range 250 {
		report, e := farm.Run(anyScript(r))
		if e != api.OK {
			t.Fatal(e)
		}
		given := []byte(report.Text)
		a, b, e1 := farm.Replay(string(given))
		wantA, wantB := copyVerdict(a), copyVerdict(b)
		c, d, e2 := farm.Replay(strings.Clone(report.Text))
		apart(t, slices.Concat(piecesOfVerdict(a), piecesOfVerdict(b), piecesOfVerdict(c), piecesOfVerdict(d), piecesOfReport(report)))
		blot(given, '?')
		blotVerdict(report.Verdict)
		blotVerdict(a)
		if !reflect.DeepEqual(b, wantB) {
			t.Fatalf("%s: the verdicts share memory", report.Text)
		}
		blotVerdict(b)
		if e1 != api.OK || e2 != api.OK || !reflect.DeepEqual(c, wantA) || !reflect.DeepEqual(d, wantB) {
			t.Fatalf("%s: an answer shares memory with an earlier one, or isn't always the same", report.Text)
		}
		traced += len(c.Want.Trace) + len(d.Got.Trace)
	}
	if t.Logf("%d numbers printed", traced); traced < 300 {
		t.Errorf("%d numbers printed", traced)
	}
}

// P2, and the rules of memory, of Text: of texts that share memory it is the same as of others, and each time.
func TestMemoryOfText(t *testing.T) {
	given := []byte("abcabc")
	a := farm.Text(1, 2, 1, string(given[:3]), string(given[3:]))
	b := farm.Text(1, 2, 1, string(given[:3]), string(given[:3]))
	blot(given, '?')
	if want := "passes 1\nfaults 2\nverdict agree\nprogram 3\nabcreduced 3\nabc"; a != want || b != want {
		t.Errorf("%q, %q", a, b)
	}
}

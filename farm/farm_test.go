package farm_test

import (
	"fmt"
	"math/rand"
	"reflect"
	"testing"

	"burin/api"
	"burin/farm"
	"burin/gen"
	"burin/oracle"
	"burin/parse"
	"burin/reduce"
	"burin/safe"
	"burin/show"
	"burin/tree"
)

// The signatures that the chapter lists, and the fields of its types.
var (
	_ func(farm.Script) (farm.Report, api.Errno)               = farm.Run
	_ func(byte, byte, byte, string, string) string            = farm.Text
	_ func(string) (oracle.Verdict, oracle.Verdict, api.Errno) = farm.Replay
	_                                                          = farm.Script{Config: gen.Config{}, Draws: []uint64{}, Passes: byte(0), Faults: byte(0)}
	_                                                          = farm.Report{Program: api.Node{}, Used: 0, Verdict: oracle.Verdict{}, Reduced: api.Node{}, Steps: 0, Text: ""}
)

// all: the bits of all passes.
const all = oracle.Inline | oracle.Fold | oracle.Prop | oracle.Cse | oracle.Dead | oracle.Flow

// words of the verdicts, by their kinds.
var words = []string{oracle.Invalid: "invalid", oracle.Agree: "agree", oracle.Mismatch: "mismatch"}

// report: a report's text by the words of the chapter.
func report(passes, faults any, word string, program, reduced string) string {
	return fmt.Sprintf("passes %v\nfaults %v\nverdict %s\nprogram %d\n%sreduced %d\n%s", passes, faults, word, len(program), program, len(reduced), reduced)
}

func parsed(t *testing.T, s string) api.Node {
	t.Helper()
	n, at, e := parse.Parse(s)
	if e != api.OK {
		t.Fatalf("Parse(%q): %d at %d", s, e, at)
	}
	return n
}

func text(t *testing.T, n api.Node) string {
	t.Helper()
	s, e := show.Text(n)
	if e != api.OK {
		t.Fatalf("Text(%+v): %d", n, e)
	}
	return s
}

// draws: so many, great ones and small ones.
func draws(r *rand.Rand, many int) []uint64 {
	var list []uint64
	for range many {
		list = append(list, r.Uint64()>>r.Intn(64))
	}
	return list
}

// edges: configurations with each bound.
func edges() []gen.Config {
	var list []gen.Config
	for _, funcs := range []int{0, 4} {
		for _, stats := range []int{1, 8} {
			for _, depth := range []int{1, 4} {
				for _, size := range []int{20, 2000} {
					list = append(list, gen.Config{Funcs: funcs, Stats: stats, Depth: depth, Size: size})
				}
			}
		}
	}
	return list
}

func anyConfig(r *rand.Rand) gen.Config {
	return gen.Config{Funcs: r.Intn(5), Stats: 1 + r.Intn(8), Depth: 1 + r.Intn(4), Size: 20 + r.Intn(600)}
}

// anyFaults: none, one, several, all, and such as mean nothing.
func anyFaults(r *rand.Rand) byte {
	switch r.Intn(9) {
	case 0:
		return 0
	case 1:
		return byte(r.Intn(256))
	case 2:
		return 255
	}
	return 1 << r.Intn(8)
}

func anyScript(r *rand.Rand) farm.Script {
	passes := byte(r.Intn(256))
	if r.Intn(2) == 0 {
		passes = all
	}
	return farm.Script{Config: anyConfig(r), Draws: draws(r, 1+r.Intn(1500)), Passes: passes, Faults: anyFaults(r)}
}

// byHand is what P28.2 says, word by word.
func byHand(t *testing.T, s farm.Script) (farm.Report, api.Errno) {
	t.Helper()
	var r farm.Report
	var e api.Errno
	if r.Program, r.Used, e = gen.Make(s.Config, s.Draws); e != api.OK {
		return farm.Report{}, e
	}
	r.Verdict = oracle.Judge(r.Program, s.Passes, s.Faults)
	r.Reduced, r.Steps = reduce.Reduce(r.Program, s.Passes, s.Faults)
	r.Text = report(s.Passes, s.Faults, words[r.Verdict.Kind], text(t, r.Program), text(t, r.Reduced))
	return r, api.OK
}

// ran holds a Run against what the chapter says of it.
func ran(t *testing.T, s farm.Script) farm.Report {
	t.Helper()
	got, e := farm.Run(s)
	want, wantE := byHand(t, s)
	if e != wantE || e != api.OK {
		t.Fatalf("Run(%+v): %d; want %d", s, e, wantE)
	}
	if !tree.Same(got.Program, want.Program) || got.Used != want.Used || !reflect.DeepEqual(got.Verdict, want.Verdict) ||
		!tree.Same(got.Reduced, want.Reduced) || got.Steps != want.Steps || got.Text != want.Text {
		t.Fatalf("Run(%+v) = %+v; want %+v", s, got, want)
	}
	if _, _, e := safe.Check(got.Program); e != api.OK || got.Used > len(s.Draws) {
		t.Fatalf("Run(%+v): a program that isn't safe (%d), %d draws used up of %d", s, e, got.Used, len(s.Draws))
	}
	lighter := tree.Weight(got.Reduced) < tree.Weight(got.Program)
	if lighter != (got.Steps > 0) || got.Steps > 0 && got.Verdict.Kind != oracle.Mismatch || got.Steps == 0 && !tree.Same(got.Reduced, got.Program) {
		t.Fatalf("Run(%+v): verdict %d, %d steps, reduced is %s", s, got.Verdict.Kind, got.Steps, text(t, got.Reduced))
	}
	return got
}

// P28.2: scripts from draws, field by field, with each pass and each fault, agreements and mismatches.
func TestRun(t *testing.T) {
	r := rand.New(rand.NewSource(28))
	var kinds [3]int
	steps := 0
	for range 500 {
		got := ran(t, anyScript(r))
		kinds[got.Verdict.Kind]++
		steps += got.Steps
	}
	t.Logf("verdicts %d, %d steps", kinds, steps)
	if kinds[oracle.Agree] < 100 || kinds[oracle.Mismatch] < 40 || steps < 500 {
		t.Errorf("verdicts %d, %d steps", kinds, steps)
	}
}

// P28.2: all sets of passes, and all sets of faults, of the same draws; what means nothing is told in the Text, and changes nothing else.
func TestRunOfAllBits(t *testing.T) {
	r := rand.New(rand.NewSource(29))
	s := farm.Script{Config: gen.Config{Funcs: 2, Stats: 4, Depth: 2, Size: 60}, Draws: draws(r, 300)}
	for s.Passes, s.Faults = all, 255; ran(t, s).Verdict.Kind != oracle.Mismatch; {
		s.Draws = draws(r, 300)
	}
	for bits := range 256 {
		s.Passes, s.Faults = byte(bits), byte(r.Intn(256))
		got := ran(t, s)
		s.Passes = byte(bits) ^ 64<<r.Intn(2)
		if other := ran(t, s); !reflect.DeepEqual(other.Verdict, got.Verdict) || !tree.Same(other.Reduced, got.Reduced) || other.Text == got.Text {
			t.Errorf("passes %d and %d, faults %d: %+v and %+v", bits, s.Passes, s.Faults, other, got)
		}
		s.Passes, s.Faults = byte(r.Intn(256)), byte(bits)
		got = ran(t, s)
		s.Faults = byte(bits) ^ 128
		if other := ran(t, s); !reflect.DeepEqual(other.Verdict, got.Verdict) || !tree.Same(other.Reduced, got.Reduced) || other.Text == got.Text {
			t.Errorf("passes %d, faults %d and %d: %+v and %+v", s.Passes, bits, s.Faults, other, got)
		}
	}
}

// P28.2: draws: none, few, more than are used; as many as there may be; configurations with each bound.
func TestRunOfEdges(t *testing.T) {
	r := rand.New(rand.NewSource(30))
	left, mismatches := 0, 0
	for _, c := range edges() {
		for _, many := range []int{0, 1, 2, 7, 50, 700, api.MaxTape} {
			s := farm.Script{Config: c, Draws: draws(r, many), Passes: all, Faults: 1<<r.Intn(7) | oracle.Last}
			got := ran(t, s)
			if got.Verdict.Kind == oracle.Mismatch {
				mismatches++
			}
			if got.Used == many {
				continue
			}
			left++
			s.Draws = append(s.Draws[:got.Used:got.Used], draws(r, r.Intn(9))...)
			if other := ran(t, s); !reflect.DeepEqual(other, got) {
				t.Errorf("%+v: draws that aren't used up matter", c)
			}
		}
	}
	t.Logf("of %d scripts draws were left, %d mismatches", left, mismatches)
	if left < 20 || mismatches < 3 {
		t.Errorf("of %d scripts draws were left, %d mismatches", left, mismatches)
	}
	none := ran(t, farm.Script{Config: gen.Config{Funcs: 0, Stats: 1, Depth: 1, Size: 20}})
	if none.Used != 0 || none.Steps != 0 || none.Verdict.Kind != oracle.Agree {
		t.Errorf("without draws: %+v", none)
	}
}

// P28.2: gen.Make's errors, and nothing else beside them.
func TestRunRefuses(t *testing.T) {
	r := rand.New(rand.NewSource(31))
	fine := gen.Config{Funcs: 1, Stats: 3, Depth: 2, Size: 80}
	refuse := func(c gen.Config, many int, want api.Errno) {
		t.Helper()
		list := draws(r, many)
		for _, bits := range []byte{0, all, 255} {
			got, e := farm.Run(farm.Script{Config: c, Draws: list, Passes: bits, Faults: bits})
			if e != want || !reflect.DeepEqual(got, farm.Report{}) {
				t.Errorf("%+v, %d draws: %d, %+v; want %d", c, many, e, got, want)
			}
		}
	}
	for _, c := range []gen.Config{
		{}, {Funcs: -1, Stats: 3, Depth: 2, Size: 80}, {Funcs: 5, Stats: 3, Depth: 2, Size: 80},
		{Funcs: 1, Stats: 0, Depth: 2, Size: 80}, {Funcs: 1, Stats: 9, Depth: 2, Size: 80},
		{Funcs: 1, Stats: 3, Depth: 0, Size: 80}, {Funcs: 1, Stats: 3, Depth: 5, Size: 80},
		{Funcs: 1, Stats: 3, Depth: 2, Size: 19}, {Funcs: 1, Stats: 3, Depth: 2, Size: 2001},
		{Funcs: 1 << 62, Stats: 1 << 62, Depth: 1 << 62, Size: 1 << 62}, {Funcs: -1 << 63, Stats: -1 << 63, Depth: -1 << 63, Size: -1 << 63},
	} {
		refuse(c, 0, api.ErrArg)
		refuse(c, 100, api.ErrArg)
		refuse(c, api.MaxTape+1, api.ErrArg)
	}
	refuse(fine, api.MaxTape+1, api.ErrLong)
	refuse(fine, 3*api.MaxTape, api.ErrLong)
	ran(t, farm.Script{Config: fine, Draws: draws(r, api.MaxTape)})
}

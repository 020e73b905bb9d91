package gen

import (
	"fmt"
	"math"
	"math/rand"
	"slices"
	"testing"

	"burin/api"
	"burin/eval"
	"burin/parse"
	"burin/safe"
	"burin/show"
	"burin/tree"
	"burin/types"
)

// The signatures that the chapter lists.
var (
	_ func(Config) bool                                 = Form
	_ func(Config, []uint64) (api.Node, int, api.Errno) = Make
	_                                                   = Config{Funcs: 1, Stats: 1, Depth: 1, Size: 1}
)

// numberOf: where each number of a Config lies, and its bounds.
var numberOf = []struct {
	name  string
	in    func(*Config) *int
	least int
	most  int
}{
	{"Funcs", func(c *Config) *int { return &c.Funcs }, 0, 4},
	{"Stats", func(c *Config) *int { return &c.Stats }, 1, 8},
	{"Depth", func(c *Config) *int { return &c.Depth }, 1, 4},
	{"Size", func(c *Config) *int { return &c.Size }, 20, 2000},
}

// edges: all Configs of the least, a middling and the greatest of each number.
func edges() []Config {
	list := []Config{{}}
	for _, f := range numberOf {
		var more []Config
		for _, c := range list {
			for _, v := range []int{f.least, f.least + (f.most-f.least)/5 + 1, f.most} {
				*f.in(&c) = v
				more = append(more, c)
			}
		}
		list = more
	}
	return list
}

// anyConfig: one that is of the form.
func anyConfig(r *rand.Rand) Config {
	c := Config{r.Intn(5), 1 + r.Intn(8), 1 + r.Intn(4), 20 + r.Intn(1981)}
	if r.Intn(2) == 0 {
		c.Size = 20 + r.Intn(60)
	}
	return c
}

func repeated(n int, draw uint64) []uint64 { return slices.Repeat([]uint64{draw}, n) }

func counted(n int, draw func(k uint64) uint64) []uint64 {
	list := make([]uint64, n)
	for k := range list {
		list[k] = draw(uint64(k))
	}
	return list
}

func random(r *rand.Rand, n int) []uint64 {
	return counted(n, func(uint64) uint64 { return r.Uint64() })
}

// anyDraws: a list of one of several kinds.
func anyDraws(r *rand.Rand) []uint64 {
	n := r.Intn(400)
	switch r.Intn(10) {
	case 0:
		n = api.MaxTape
	case 1:
		return counted(n, func(uint64) uint64 { return uint64(r.Intn(4)) })
	case 2:
		return counted(n, func(uint64) uint64 { return math.MaxUint64 - uint64(r.Intn(4)) })
	case 3:
		by := r.Uint64()
		return counted(n, func(k uint64) uint64 { return k * by })
	case 4:
		return counted(n, func(uint64) uint64 { return r.Uint64() * uint64(r.Intn(2)) })
	}
	return random(r, n)
}

// named: the list number i of the chapter.
func named(i uint64) []uint64 {
	return counted(200, func(k uint64) uint64 { return (k + 1) * (i + 7) * 2654435761 / 128 })
}

func text(t *testing.T, n api.Node) string {
	t.Helper()
	s, e := show.Text(n)
	if e != api.OK {
		t.Fatalf("no text: %d of %.2000v", e, n)
	}
	return s
}

// made: what Make answers, with all that P12.2 says of each program alone.
func made(t *testing.T, c Config, draws []uint64) (api.Node, int) {
	t.Helper()
	n, used, e := Make(c, draws)
	if e != api.OK || used < 0 || used > len(draws) {
		t.Fatalf("Make(%v, %d draws): %d used, %d", c, len(draws), used, e)
	}
	steps, at, e := safe.Check(n)
	if e != api.OK {
		t.Fatalf("Make(%v, %v): %d at %d\n%s", c, draws, e, at, text(t, n))
	}
	s := text(t, n)
	if again, at, e := parse.Parse(s); e != api.OK || !tree.Same(again, n) {
		t.Fatalf("Make(%v, %v): its text is not read as it is: %d at %d\n%s", c, draws, e, at, s)
	}
	fits(t, c, n)
	o, _, e := eval.Run(n, steps)
	if e != api.OK || !o.Halted || o.Trap != api.NoTrap || o.Fuel || o.Steps > steps {
		t.Fatalf("Make(%v, %v): with %d steps %+v, %d\n%s", c, draws, steps, o, e, s)
	}
	return n, used
}

// fits: is a program not greater than it may be?
func fits(t *testing.T, c Config, n api.Node) {
	t.Helper()
	if size := tree.Size(n); size > c.Size {
		t.Fatalf("%v: %d nodes\n%s", c, size, text(t, n))
	}
	funcs := -1
	walk(n, func(n api.Node) {
		if n.Kind == api.Func {
			funcs++
		}
		if n.Kind == api.Block && len(n.Kids) > c.Stats+2 {
			t.Fatalf("%v: %d statements", c, len(n.Kids))
		}
	})
	if funcs > c.Funcs {
		t.Fatalf("%v: %d functions\n%s", c, funcs, text(t, n))
	}
}

func walk(n api.Node, visit func(api.Node)) {
	visit(n)
	for _, kid := range n.Kids {
		walk(kid, visit)
	}
}

// same: do two lists of draws make one program?
func same(t *testing.T, c Config, a, b []uint64) {
	t.Helper()
	m, _ := made(t, c, a)
	n, _ := made(t, c, b)
	if !tree.Same(m, n) {
		t.Fatalf("%v: two programs\n%s\n%s\nof\n%v\n%v", c, text(t, m), text(t, n), a, b)
	}
}

// P12.1: each number just within and just beyond its bounds.
func TestForm(t *testing.T) {
	for _, c := range edges() {
		if !Form(c) {
			t.Errorf("%v is not of the form", c)
		}
		for _, f := range numberOf {
			for _, v := range []int{f.least - 1, f.most + 1, -f.most, math.MinInt, math.MaxInt} {
				wrong := c
				*f.in(&wrong) = v
				if Form(wrong) {
					t.Errorf("%v is of the form", wrong)
				}
			}
		}
	}
	for _, f := range numberOf {
		for v := f.least - 3; v <= f.most+3; v++ {
			c := Config{2, 4, 3, 300}
			*f.in(&c) = v
			if Form(c) != (f.least <= v && v <= f.most) {
				t.Errorf("Form of %s %d", f.name, v)
			}
		}
	}
	if Form(Config{}) {
		t.Error("the zero Config is of the form")
	}
}

func refused(t *testing.T, c Config, draws []uint64, want api.Errno) {
	t.Helper()
	n, used, e := Make(c, draws)
	if e != want || used != 0 || !tree.Same(n, api.Node{}) {
		t.Errorf("Make(%v, %d draws) = %v, %d, %d; want %d", c, len(draws), n, used, e, want)
	}
}

// P12.2: which error is told, also where two apply; beside it all is zero.
func TestErrors(t *testing.T) {
	tooMany := repeated(api.MaxTape+1, 5)
	for _, c := range edges() {
		refused(t, c, tooMany, api.ErrLong)
		for _, f := range numberOf {
			for _, v := range []int{f.least - 1, f.most + 1, math.MinInt, math.MaxInt} {
				wrong := c
				*f.in(&wrong) = v
				for _, draws := range [][]uint64{nil, {7}, tooMany[:api.MaxTape], tooMany} {
					refused(t, wrong, draws, api.ErrArg)
				}
			}
		}
	}
	refused(t, Config{}, nil, api.ErrArg)
	refused(t, Config{}, tooMany, api.ErrArg)
	refused(t, Config{4, 8, 4, 2000}, repeated(2*api.MaxTape, 0), api.ErrLong)
}

// The chapter's example.
func TestExample(t *testing.T) {
	made(t, Config{0, 1, 1, 20}, nil)
	made(t, Config{0, 1, 1, 20}, []uint64{})
}

// P12.2, P3: all edges of a Config, with lists at the edges of what draws can be.
func TestEdges(t *testing.T) {
	r := rand.New(rand.NewSource(1))
	for _, c := range edges() {
		for _, draws := range [][]uint64{
			nil,
			{0},
			{1},
			{math.MaxUint64},
			repeated(api.MaxTape, 0),
			repeated(api.MaxTape, math.MaxUint64),
			repeated(api.MaxTape, 1),
			repeated(api.MaxTape, 1<<63),
			repeated(200, math.MaxUint64-1),
			counted(api.MaxTape, func(k uint64) uint64 { return k }),
			counted(api.MaxTape, func(k uint64) uint64 { return math.MaxUint64 - k }),
			random(r, 40),
			random(r, 400),
			random(r, api.MaxTape),
			random(r, api.MaxTape-1),
		} {
			made(t, c, draws)
		}
	}
}

// P12.2: the least Size, with as much else as may be.
func TestLeastSize(t *testing.T) {
	r := rand.New(rand.NewSource(2))
	for _, c := range []Config{{4, 8, 4, 20}, {4, 8, 4, 21}, {4, 1, 4, 20}, {0, 8, 4, 20}, {4, 8, 1, 20}, {0, 1, 1, 20}} {
		for range 500 {
			made(t, c, random(r, r.Intn(100)))
		}
	}
}

// P12.2: every draw alone, whatever it is, ahead of none and of many.
func TestEachDraw(t *testing.T) {
	r := rand.New(rand.NewSource(3))
	c := Config{4, 8, 4, 400}
	for at := range 40 {
		draws := random(r, 300)
		for v := range uint64(24) {
			draws[at] = v
			made(t, c, draws)
			made(t, c, draws[:at+1])
		}
	}
}

// P12.2, P3, P4: programs of many draws and Configs.
func TestManyPrograms(t *testing.T) {
	r := rand.New(rand.NewSource(4))
	for range 4000 {
		made(t, anyConfig(r), anyDraws(r))
	}
}

// P12.2, P2: the same of the same, whatever was made between.
func TestSameAgain(t *testing.T) {
	r := rand.New(rand.NewSource(5))
	for range 300 {
		c, draws := anyConfig(r), anyDraws(r)
		first, used := made(t, c, draws)
		made(t, anyConfig(r), anyDraws(r))
		again, usedAgain := made(t, c, slices.Clone(draws))
		if !tree.Same(first, again) || used != usedAgain {
			t.Fatalf("%v, %v: another program, or %d draws and %d", c, draws, used, usedAgain)
		}
	}
}

// P12.2: draws that were not used up may be changed, left out, or more of them put behind.
func TestDrawsThatAreLeft(t *testing.T) {
	r := rand.New(rand.NewSource(6))
	left := 0
	for range 400 {
		c, draws := anyConfig(r), random(r, 1+r.Intn(1000))
		_, used := made(t, c, draws)
		if used == len(draws) {
			continue
		}
		left++
		for _, other := range [][]uint64{
			draws[:used],
			draws[:used+1],
			append(slices.Clone(draws[:used]), random(r, 50)...),
			append(slices.Clone(draws[:used]), repeated(api.MaxTape-used, math.MaxUint64)...),
			append(slices.Clone(draws[:used]), repeated(30, 0)...),
		} {
			same(t, c, draws, other)
			if _, again := made(t, c, other); again != used {
				t.Fatalf("%v, %v: %d draws, then %d", c, draws, used, again)
			}
		}
	}
	if left < 100 {
		t.Errorf("draws were left only %d times", left)
	}
}

// P12.2: draws of 0 behind the last one may be put there, or left out.
func TestZerosBehind(t *testing.T) {
	r := rand.New(rand.NewSource(7))
	spent := 0
	for i := range 400 {
		c, draws := anyConfig(r), anyDraws(r)
		if i%2 == 0 {
			draws = random(r, r.Intn(60)) // few, so that all are used up
		}
		if _, used := made(t, c, draws); used == len(draws) {
			spent++
		}
		for _, zeros := range []int{1, 2, 100, api.MaxTape} {
			zeros = min(zeros, api.MaxTape-len(draws))
			same(t, c, draws, append(slices.Clone(draws), repeated(zeros, 0)...))
		}
	}
	if spent < 100 {
		t.Errorf("all draws were used up only %d times", spent)
	}
	for _, c := range edges() {
		same(t, c, nil, repeated(api.MaxTape, 0))
	}
}

// What is used up are the draws from the first on: the last of them can matter.
func TestUsedDrawsMatter(t *testing.T) {
	r := rand.New(rand.NewSource(8))
	c := Config{2, 4, 3, 300}
	matters := 0
	for range 200 {
		draws := random(r, 1+r.Intn(60))
		n, used := made(t, c, draws)
		if used == 0 {
			t.Fatal("no draw was used up")
		}
		for v := range uint64(20) {
			other := slices.Clone(draws)
			other[used-1] = v
			if m, _ := made(t, c, other); !tree.Same(m, n) {
				matters++
				break
			}
		}
	}
	if matters < 100 {
		t.Errorf("the last draw that was used up mattered %d times of 200", matters)
	}
}

// The lists that the chapter names are what it says.
func TestNamedLists(t *testing.T) {
	for _, r := range []struct{ i, k, want uint64 }{
		{0, 0, 145164455}, {0, 1, 290328911}, {1, 0, 165902235}, {63, 199, 290328911359},
	} {
		if got := named(r.i)[r.k]; got != r.want {
			t.Errorf("list %d, draw %d: %d; want %d", r.i, r.k, got, r.want)
		}
	}
}

// P12.2: of the 64 lists at least 20 programs are unlike, and at least 5 print something.
func TestUnlike(t *testing.T) {
	var lists [64][]uint64
	for i := range lists {
		lists[i] = named(uint64(i))
	}
	for funcs := range 5 {
		for stats := 3; stats <= 8; stats++ {
			t.Run(fmt.Sprint(funcs, stats), func(t *testing.T) {
				t.Parallel()
				for depth := 2; depth <= 4; depth++ {
					for _, size := range []int{300, 2000} {
						unlike(t, Config{funcs, stats, depth, size}, lists[:])
					}
				}
			})
		}
	}
}

func unlike(t *testing.T, c Config, lists [][]uint64) {
	t.Helper()
	texts := map[string]int{}
	printing := map[string]int{}
	for _, draws := range lists {
		n, _ := made(t, c, draws)
		s := text(t, n)
		texts[s]++
		if o, _, _ := eval.Run(n, api.MaxSteps); len(o.Trace) > 0 {
			printing[s]++
		}
	}
	if len(texts) < 20 || len(printing) < 5 {
		t.Errorf("%v: %d programs, %d of them print", c, len(texts), len(printing))
	}
}

// spoil writes over all memory of a tree, spare room too.
func spoil(n *api.Node) {
	for i := range n.Kids {
		spoil(&n.Kids[i])
	}
	all := n.Kids[:cap(n.Kids)]
	for i := range all {
		all[i] = api.Node{Kind: 99, Name: "spoilt"}
	}
	*n = api.Node{}
}

// fillRoom writes over the spare room of all lists of a tree.
func fillRoom(n api.Node) {
	for _, kid := range n.Kids {
		fillRoom(kid)
	}
	for i := len(n.Kids); i < cap(n.Kids); i++ {
		n.Kids[:cap(n.Kids)][i] = api.Node{Kind: 99, Name: "spoilt"}
	}
}

// Memory: an answer shares none with an earlier one, and no two lists of it share any.
func TestAnswersAreNew(t *testing.T) {
	r := rand.New(rand.NewSource(9))
	for _, c := range edges() {
		for _, draws := range [][]uint64{nil, random(r, 100), random(r, 1000)} {
			n, _ := made(t, c, draws)
			before := text(t, n)
			m, _ := made(t, c, draws)
			fillRoom(m)
			if text(t, m) != before {
				t.Fatalf("%v: lists share memory", c)
			}
			spoil(&m)
			if text(t, n) != before {
				t.Fatalf("%v: two answers share memory", c)
			}
			if m, _ = made(t, c, draws); text(t, m) != before {
				t.Fatalf("%v: an answer was kept", c)
			}
		}
	}
}

// Memory: what is handed in isn't changed, its spare room neither, and isn't kept.
func TestDrawsAreLeftAlone(t *testing.T) {
	r := rand.New(rand.NewSource(10))
	for _, c := range edges() {
		room := random(r, 300)
		before := slices.Clone(room)
		n, _ := made(t, c, room[:200])
		if !slices.Equal(room, before) {
			t.Fatalf("%v: the draws are changed", c)
		}
		s := text(t, n)
		for i := range room {
			room[i] = 0
		}
		if text(t, n) != s {
			t.Fatalf("%v: the program hangs on the draws behind the call", c)
		}
		same(t, c, before[:200], append([]uint64(nil), before[:200]...))
	}
}

// What comes of no draws, or of 0 alone, is as little as may be: it prints and returns.
func TestNoDraws(t *testing.T) {
	for _, c := range edges() {
		n, used := made(t, c, nil)
		if used != 0 || text(t, n) != "i32 main(){print(0u32);return 0i32;}" {
			t.Errorf("%v: %d used, %s", c, used, text(t, n))
		}
	}
}

// Programs that are right have their names bound as types says; each name of a variable is short enough with the greatest Size.
func TestGreatPrograms(t *testing.T) {
	r := rand.New(rand.NewSource(11))
	most := 0
	for range 60 {
		n, _ := made(t, Config{4, 8, 4, 2000}, random(r, api.MaxTape))
		if _, _, e := types.Resolve(n); e != api.OK {
			t.Fatalf("not right: %d", e)
		}
		most = max(most, tree.Size(n))
	}
	if most < 1000 {
		t.Errorf("no program has more than %d nodes", most)
	}
}

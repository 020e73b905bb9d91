package alloc

import (
	"math/rand"
	"slices"
	"testing"

	"burin/api"
	"burin/ir"
)

// The signatures that the chapter lists.
var (
	_ func(api.Code, int) ([]int, api.Errno) = Places
	_ func(api.Code, int, []int) api.Errno   = Check
	_ [Free]int                              = [6]int{}
)

// Instructions by short names.
func num(dst int, n int64) api.Inst { return api.Inst{Op: api.IConst, Dst: dst, Imm: n} }
func move(dst, a int) api.Inst      { return api.Inst{Op: api.IMove, Dst: dst, A: a} }
func show(a int) api.Inst           { return api.Inst{Op: api.IPrint, A: a} }
func add(dst, a, b int) api.Inst    { return api.Inst{Op: api.Add, Type: api.I32, Dst: dst, A: a, B: b} }
func call(dst int, a ...int) api.Inst {
	return api.Inst{Op: api.ICall, Dst: dst, Args: a}
}

// Parts by how they end.
func end(cond int, insts ...api.Inst) api.Part { return api.Part{Insts: insts, End: true, Cond: cond} }
func jump(to int, insts ...api.Inst) api.Part  { return api.Part{Insts: insts, Cond: -1, Next: to} }
func branch(cond, to, other int, insts ...api.Inst) api.Part {
	return api.Part{Insts: insts, Cond: cond, Next: to, Else: other}
}

// of: code whose function 1 has these parts; one ahead of it can be called with two numbers, and the last one does nothing.
func of(params, regs int, p ...api.Part) api.Code {
	two := api.Fn{Params: 2, Regs: 2, Parts: []api.Part{end(0)}}
	last := api.Fn{Regs: 1, Parts: []api.Part{end(0)}}
	return api.Code{Globals: []int{1}, Inits: []int64{0}, Fns: []api.Fn{two, {Params: params, Regs: regs, Slots: []int{1}, Parts: p}, last}}
}

// checks asks Check for an error.
func checks(t *testing.T, what string, c api.Code, want api.Errno, places ...int) {
	t.Helper()
	if e := Check(c, 1, places); e != want {
		t.Errorf("%s: Check(%v) = %d; want %d", what, places, e, want)
	}
}

// touched: how many registers are read or written, or are parameters.
func touched(f api.Fn) int {
	is := make([]bool, f.Regs)
	for r := range f.Params {
		is[r] = true
	}
	for _, p := range f.Parts {
		for _, i := range p.Insts {
			for _, r := range ir.Uses(i) {
				is[r] = true
			}
			if ir.Dst(i) {
				is[i.Dst] = true
			}
		}
		if p.Cond >= 0 {
			is[p.Cond] = true
		}
	}
	many := 0
	for _, yes := range is {
		if yes {
			many++
		}
	}
	return many
}

// kept asks Places for places that Check takes, within the chapter's bounds.
func kept(t *testing.T, what string, c api.Code) []int {
	t.Helper()
	places, e := Places(c, 1)
	if e != api.OK {
		t.Fatalf("%s: Places: %d", what, e)
	}
	if e := Check(c, 1, places); e != api.OK {
		t.Fatalf("%s: Check of Places: %d", what, e)
	}
	many := touched(c.Fns[1])
	for r, p := range places {
		if p < -many || p >= Free || many <= Free && p < 0 {
			t.Fatalf("%s: register %d is kept in %d, where %d are touched", what, r, p, many)
		}
	}
	return places
}

// The chapter's example.
func TestExample(t *testing.T) {
	c := of(0, 2, end(0, num(0, 1), num(1, 2), add(0, 0, 1)))
	checks(t, "the example", c, api.ErrUnsafe, 0, 0)
	checks(t, "the example", c, api.OK, 0, 1)
	checks(t, "the example", c, api.OK, 0, -1)
	checks(t, "the example", c, api.ErrForm, 6, 0)
	checks(t, "the example", c, api.ErrForm, 0)
	kept(t, "the example", c)
}

// P23.1: places at the ends of their ranges, and one more on either side; lists of the wrong length.
func TestForm(t *testing.T) {
	c := of(0, 3, end(0))
	for _, p := range []int{-api.MaxCells, -api.MaxCells + 1, -1, 0, 1, Free - 1} {
		checks(t, "a place", c, api.OK, p, 0, 0)
		checks(t, "a place, the last", c, api.OK, 0, 0, p)
	}
	for _, p := range []int{-api.MaxCells - 1, Free, Free + 1, api.Regs, api.MaxCells, -1 << 63, 1<<63 - 1} {
		checks(t, "no place", c, api.ErrForm, p, 0, 0)
		checks(t, "no place, the last", c, api.ErrForm, 0, 0, p)
		checks(t, "no place, of a register that nobody touches", c, api.ErrForm, 0, p, 1)
	}
	checks(t, "none", c, api.ErrForm)
	checks(t, "one less", c, api.ErrForm, 0, 1)
	checks(t, "one more", c, api.ErrForm, 0, 1, 2, 3)
	if e := Check(c, 1, make([]int, 1<<20)); e != api.ErrForm {
		t.Errorf("many more: %d", e)
	}
}

// P23.1, P23.2: which error goes first: code that isn't right, no such function, no places, two that meet.
func TestErrors(t *testing.T) {
	right := of(2, 2, end(0))
	wrong := of(2, 2, end(0, num(2, 1)))
	long := of(2, 2, end(0, make([]api.Inst, api.MaxInsts)...))
	for _, r := range []struct {
		c      api.Code
		fn     int
		places []int
		e      api.Errno
	}{
		{wrong, 1, []int{0, 1}, api.ErrForm},
		{wrong, 3, []int{0, 1}, api.ErrForm},
		{wrong, -1, nil, api.ErrForm},
		{long, 1, []int{0, 1}, api.ErrLimit},
		{long, 1, []int{0, 6}, api.ErrLimit},
		{long, 1, []int{0, 0}, api.ErrLimit},
		{long, 7, []int{0}, api.ErrLimit},
		{api.Code{}, 0, nil, api.ErrForm},
		{right, 3, []int{0, 1}, api.ErrNone},
		{right, -1, []int{0, 1}, api.ErrNone},
		{right, 1<<63 - 1, nil, api.ErrNone},
		{right, -1 << 63, []int{9}, api.ErrNone},
		{right, 3, []int{6, 0}, api.ErrNone},
		{right, 1, []int{0, 6}, api.ErrForm},
		{right, 1, []int{0, 0, 6}, api.ErrForm},
		{right, 1, []int{0, 0, 0}, api.ErrForm},
		{right, 1, []int{6, 6}, api.ErrForm},
		{right, 1, nil, api.ErrForm},
		{right, 1, []int{0, 0}, api.ErrUnsafe},
		{right, 1, []int{-7, -7}, api.ErrUnsafe},
		{right, 1, []int{0, 1}, api.OK},
		{right, 0, []int{5, -65536}, api.OK},
		{right, 2, []int{5}, api.OK},
	} {
		if e := Check(r.c, r.fn, r.places); e != r.e {
			t.Errorf("Check(.., %d, %v) = %d; want %d", r.fn, r.places, e, r.e)
		}
		want := ir.Valid(r.c)
		if want == api.OK && (r.fn < 0 || r.fn > 2) {
			want = api.ErrNone
		}
		if l, e := Places(r.c, r.fn); e != want || e != api.OK && len(l) > 0 {
			t.Errorf("Places(.., %d) = %v, %d; want %d", r.fn, l, e, want)
		}
	}
}

// P23.1: registers that meet, and those that don't: r0 and r1, the others stand apart.
func TestMeet(t *testing.T) {
	for what, r := range map[string]struct {
		meet bool
		c    api.Code
	}{
		"behind an instruction":                             {true, of(0, 4, end(0, num(0, 1), num(1, 2), add(0, 0, 1)))},
		"the other is written first":                        {true, of(0, 4, end(0, num(1, 1), num(0, 2), add(0, 0, 1)))},
		"written where the other is read for the last time": {false, of(0, 4, end(1, num(0, 1), move(1, 0)))},
		"so as a sum":                                       {false, of(0, 4, end(1, num(0, 1), add(1, 0, 0)))},
		"written where the other is read, and again behind": {true, of(0, 4, end(0, num(0, 1), move(1, 0)))},
		"one behind the other":                              {false, of(0, 4, end(2, num(0, 1), show(0), num(1, 2), show(1)))},
		"so, the other way about":                           {false, of(0, 4, end(2, num(1, 1), show(1), num(0, 2), show(0)))},
		"what is written is read nowhere":                   {true, of(0, 4, end(0, num(0, 1), num(1, 2)))},
		"nor is the other":                                  {false, of(0, 4, end(2, num(0, 1), num(1, 2)))},
		"the other is written next":                         {false, of(0, 4, end(0, num(1, 2), num(0, 1)))},
		"read nowhere, while the other is live":             {true, of(0, 4, end(2, num(0, 1), num(1, 2), show(0)))},
		"the other is written ahead of being read":          {false, of(0, 4, end(2, num(0, 1), num(1, 2), show(1), num(0, 3), show(0)))},
		"both are live when it begins":                      {true, of(0, 4, end(0, show(1)))},
		"one is, and the other is written then":             {true, of(0, 4, end(0, num(1, 1), show(1)))},
		"one is, and the other is written at last":          {false, of(0, 4, end(1, show(0), num(1, 1)))},
		"a call writes it":                                  {true, of(0, 4, end(0, num(0, 1), call(1, 2, 3)))},
		"a call reads it for the last time":                 {false, of(0, 4, end(1, num(0, 1), call(1, 0, 0)))},
		"a call of both":                                    {true, of(0, 4, end(2, num(0, 1), num(1, 1), call(2, 0, 1)))},
		"a load writes it":                                  {true, of(0, 4, end(0, num(0, 1), api.Inst{Op: api.ISlot, Dst: 2}, api.Inst{Op: api.ILoad, Dst: 1, A: 2}))},
		"a store writes none":                               {false, of(0, 4, end(0, num(0, 1), num(2, 4), api.Inst{Op: api.IStore, Dst: 1, A: 2, B: 2}))},
		"a print writes none":                               {false, of(0, 4, end(0, num(0, 1), api.Inst{Op: api.IPrint, Dst: 1, A: 0}))},
		"both are parameters":                               {true, of(2, 4, end(2, num(2, 0)))},
		"both are parameters, and are read":                 {true, of(2, 4, end(1, show(0)))},
		"one is a parameter, the other isn't live":          {false, of(1, 4, end(1, show(0), num(1, 1)))},
		"one is a parameter, read nowhere":                  {false, of(1, 4, end(1, num(1, 1), show(1)))},
		"one is a parameter, the other is live":             {true, of(1, 4, end(0, show(1)))},
		"so, but nobody reads the parameter":                {true, of(1, 4, end(1))},
		"so, but it is written ahead of being read":         {true, of(1, 4, end(0, show(1), num(0, 5)))},
		"nobody touches either":                             {false, of(0, 4, end(2))},
		"on one of two ways":                                {true, of(0, 4, branch(2, 1, 2, num(0, 1), num(1, 2)), end(0), end(1))},
		"the one on one way, the other on the other":        {false, of(0, 4, branch(2, 1, 2), end(0, num(0, 1)), end(1, num(1, 2)))},
		"through a part that does nothing":                  {true, of(0, 4, jump(1, num(0, 1)), jump(2), end(1, num(1, 2), show(0)))},
		"as a branch's Cond":                                {true, of(0, 4, branch(0, 1, 1, num(0, 1), num(1, 2)), end(1))},
		"round a loop":                                      {true, of(0, 4, jump(1, num(2, 3)), branch(2, 1, 2, show(0), num(1, 1), show(1), num(2, 0)), end(2))},
		"round a loop, written ahead of being read":         {false, of(0, 4, jump(1, num(2, 3)), branch(2, 1, 2, num(0, 4), show(0), num(1, 1), show(1), num(2, 0)), end(2))},
		"in a part that nobody reaches":                     {true, of(0, 4, end(2), end(2, num(0, 1), num(1, 2), show(0)))},
		"live in a part that nobody reaches, not written":   {false, of(0, 4, end(2), end(0, show(1)))},
	} {
		want := api.OK
		if r.meet {
			want = api.ErrUnsafe
		}
		for _, p := range []int{0, Free - 1, -1, -api.MaxCells} {
			checks(t, what, r.c, want, p, p, 2, 3)
		}
		checks(t, what+", apart", r.c, api.OK, 1, -1, 2, 3)
		checks(t, what+", in the others' cells", r.c, api.OK, -2, -1, -3, -4)
		kept(t, what, r.c)
	}
}

// P23.1: any two of many that meet are found; the others are left.
func TestAnyTwo(t *testing.T) {
	const many = 12
	var insts []api.Inst
	for r := range many {
		insts = append(insts, num(r, 1))
	}
	for r := range many {
		insts = append(insts, show(r))
	}
	insts = append(insts, num(many, 5), show(many))
	c := of(0, many+2, end(many+1, insts...))
	places := make([]int, many+2)
	for r := range places {
		places[r] = -1 - r
	}
	for a := range many + 1 {
		for b := range a {
			l := slices.Clone(places)
			l[b] = l[a]
			want := api.ErrUnsafe
			if a == many {
				want = api.OK
			}
			checks(t, "two of many", c, want, l...)
		}
	}
}

// P23.2: no register at all; some that nobody touches; just Free that are touched, and one more; many at one time.
func TestPlaces(t *testing.T) {
	if l := kept(t, "no register", of(0, 0, jump(0))); len(l) != 0 {
		t.Errorf("no register: %v", l)
	}
	checks(t, "no register", of(0, 0, jump(0)), api.OK)
	checks(t, "no register", of(0, 0, jump(0)), api.ErrForm, 0)
	kept(t, "one alone", of(0, 1, end(0)))
	if l := kept(t, "registers that nobody touches", of(0, api.MaxRegs, end(api.MaxRegs-1))); len(l) != api.MaxRegs {
		t.Errorf("%d places", len(l))
	}
	for many := range 40 {
		var writes, reads []api.Inst
		for r := range many {
			writes, reads = append(writes, num(2*r, 1)), append(reads, show(2*r))
		}
		kept(t, "all at one time", of(0, 2*many+1, end(2*many, append(writes, reads...)...)))
		kept(t, "all at one time, in many parts", of(0, 2*many+1, jump(2, writes...), end(2*many, reads...), branch(0, 1, 2)))
		kept(t, "parameters", of(many, many+1, end(many)))
		kept(t, "when it begins", of(0, 2*many+1, end(2*many, reads...)))
		slices.Reverse(reads)
		kept(t, "all at one time, the first one longest", of(0, 2*many+1, end(2*many, append(writes, reads...)...)))
		var row []api.Inst
		for r := range many {
			row = append(row, num(r, 1), show(r))
		}
		l := kept(t, "one behind the other", of(0, many+1, end(many, append([]api.Inst{num(many, 1)}, row...)...)))
		for _, p := range l {
			if p < 0 {
				t.Errorf("one behind the other: %v", l)
			}
		}
	}
}

// P23.2: cells are used again: not more of them than there are registers at one time.
func TestCellsAreUsedAgain(t *testing.T) {
	const at, rounds = 20, 30
	var insts []api.Inst
	for k := range rounds {
		for r := range at {
			insts = append(insts, num(k*at+r, 1))
		}
		for r := range at {
			insts = append(insts, show(k*at+r))
		}
	}
	l := kept(t, "rounds", of(0, at*rounds+1, end(at*rounds, insts...)))
	if least := slices.Min(l); least < -at {
		t.Errorf("%d cells", -least)
	}
}

// P23.2, P1: as many registers, instructions, parts and parameters as there may be.
func TestGreatCode(t *testing.T) {
	many := api.MaxRegs
	r := rand.New(rand.NewSource(1))
	var mixed, row []api.Inst
	for range api.MaxInsts - 5 {
		mixed = append(mixed, add(r.Intn(many), r.Intn(many), r.Intn(many)))
	}
	for n := range many {
		row = append(row, num(n, 1))
	}
	for n := range many {
		row = append(row, show(n))
	}
	kept(t, "any sums", of(0, many, end(0, mixed...)))
	kept(t, "all live at one time", of(0, many, end(0, row...)))
	kept(t, "all are parameters", of(many, many, end(0, row...)))
	kept(t, "all are parameters, and nobody reads them", of(many, many, end(many-1)))
	kept(t, "all are live when it begins", of(0, many, end(0, row[many:]...)))
	long := api.MaxInsts/2 - 10
	kept(t, "parts in a row", of(0, 3, append(slices.Repeat([]api.Part{jump(1, add(0, 1, 2))}, long), end(0))...))
	parts := make([]api.Part, 2000)
	for n := range parts {
		parts[n] = branch(r.Intn(many), r.Intn(2000), r.Intn(2000), num(r.Intn(many), 1))
	}
	kept(t, "ways of any kind", of(0, many, parts...))
	wide := make([]api.Part, 2000)
	for n := range wide {
		wide[n] = jump(n+1, num(n, 1))
	}
	kept(t, "many live in many parts", of(0, many, append(wide, end(0, row[many:]...))...))
}

package passes

import (
	"math/rand"
	"reflect"
	"slices"
	"testing"

	"burin/alloc"
	"burin/api"
	"burin/ir"
)

// pairs are the registers of a function that meet, of each all that it meets: what the chapter says, by going the ways through its parts.
type pairs []map[int]bool

func (p pairs) add(a, b int) {
	if a != b {
		p[a][b], p[b][a] = true, true
	}
}

func pairsOf(f api.Fn) pairs {
	met := make(pairs, f.Regs)
	for r := range met {
		met[r] = map[int]bool{}
	}
	first := those(f, func(r int, seen []bool) bool { return r < f.Params || readFirst(f, f.Parts[0], 0, r, seen) })
	for _, a := range first {
		for _, b := range first {
			met.add(a, b)
		}
	}
	for _, p := range f.Parts {
		for k, i := range p.Insts {
			if wroteLast([]api.Inst{i}, i.Dst) < 0 {
				continue
			}
			for _, r := range those(f, func(r int, seen []bool) bool { return readFirst(f, p, k+1, r, seen) }) {
				met.add(i.Dst, r)
			}
		}
	}
	return met
}

// wrongFor: what Check answers to as many places as there are registers.
func (p pairs) wrongFor(places []int) api.Errno {
	for _, place := range places {
		if place < -65536 || place > 5 {
			return api.ErrForm
		}
	}
	for a, others := range p {
		for b := range others {
			if places[a] == places[b] {
				return api.ErrUnsafe
			}
		}
	}
	return api.OK
}

// handled: how many registers of a function are read or written, or are parameters.
func handled(f api.Fn) int {
	is := map[int]int{}
	for r := range f.Params {
		is[r]++
	}
	for _, p := range f.Parts {
		for _, i := range p.Insts {
			for _, r := range readBy(&i) {
				is[*r]++
			}
			if wroteLast([]api.Inst{i}, i.Dst) == 0 {
				is[i.Dst]++
			}
		}
		if p.Cond >= 0 {
			is[p.Cond]++
		}
	}
	return len(is)
}

// placesOf: what layer 23 answers for a function of right code, which Check must take, and which must be within the chapter's bounds.
func placesOf(t *testing.T, c api.Code, fn int) []int {
	t.Helper()
	f := c.Fns[fn]
	places, e := alloc.Places(c, fn)
	if e != api.OK || len(places) != f.Regs {
		t.Fatalf("Places(%+v, %d) = %v, %d", c, fn, places, e)
	}
	if e := alloc.Check(c, fn, places); e != api.OK {
		t.Fatalf("Check(%+v, %d, %v): %d", c, fn, places, e)
	}
	many := handled(f)
	for _, p := range places {
		if p >= alloc.Free || p < -many || many <= alloc.Free && p < 0 {
			t.Fatalf("Places(%+v, %d) = %v: %d are read or written", c, fn, places, many)
		}
	}
	return places
}

// nearby: other places that might do: one register is kept where another one is, or all are kept in any of a few.
func nearby(r *rand.Rand, places []int) []int {
	l := slices.Clone(places)
	if len(l) == 0 {
		return l
	}
	switch n := r.Intn(len(l)); r.Intn(8) {
	case 0:
		few := 1 + r.Intn(12)
		for k := range l {
			l[k] = r.Intn(few) - few/2
		}
	case 1:
		l[n] = []int{-65536, -65537, 5, 6, -1, 1<<63 - 1, -1 << 63}[r.Intn(7)]
	default:
		l[n] = l[r.Intn(len(l))]
	}
	return l
}

// P23.1, P23.2: for code made up of any right instructions Check says what the chapter says, of what Places answers, too.
func TestAllocMadeUp(t *testing.T) {
	r := rand.New(rand.NewSource(32))
	seen := map[api.Errno]int{}
	cells, shared := 0, 0
	for n := range 2500 {
		c := []func(*rand.Rand) api.Code{crowded, crowded, madeUp, tangled, asking}[n%5](r)
		for fn, f := range c.Fns {
			met := pairsOf(f)
			places := placesOf(t, c, fn)
			if e := met.wrongFor(places); e != api.OK {
				t.Fatalf("Places(%+v, %d) = %v: %d", c, fn, places, e)
			}
			if len(places) > 0 && slices.Min(places) < 0 {
				cells++
			}
			if other := slices.Compact(slices.Sorted(slices.Values(places))); len(other) < handled(f) {
				shared++
			}
			for range 8 {
				l := nearby(r, places)
				want := met.wrongFor(l)
				if e := alloc.Check(c, fn, l); e != want {
					t.Fatalf("Check(%+v, %d, %v) = %d; want %d", c, fn, l, e, want)
				}
				seen[want]++
			}
		}
	}
	t.Logf("in cells: %d, shared: %d; errors %v", cells, shared, seen)
	if cells < 500 || shared < 500 || seen[api.OK] < 5000 || seen[api.ErrUnsafe] < 5000 || seen[api.ErrForm] < 500 {
		t.Errorf("in cells: %d, shared: %d; errors %v", cells, shared, seen)
	}
}

// P23.1, P23.2: for the code of programs, as it is and behind the passes.
func TestAllocDrawn(t *testing.T) {
	r := rand.New(rand.NewSource(33))
	seen := map[api.Errno]int{}
	for n := range 400 {
		c := lowered(t, drawn(t, r))
		for _, l := range layers() {
			for fn := range c.Fns {
				placesOf(t, c, fn)
			}
			c, _ = l.run(c, n%7 == 0)
		}
		for fn, f := range c.Fns {
			places := placesOf(t, c, fn)
			if len(f.Parts) > 40 || f.Regs > 100 {
				continue // to go all ways would take long
			}
			met := pairsOf(f)
			for range 4 {
				want := met.wrongFor(places)
				if e := alloc.Check(c, fn, places); e != want {
					t.Fatalf("Check(%+v, %d, %v) = %d; want %d", c, fn, places, e, want)
				}
				seen[want]++
				places = nearby(r, places)
			}
		}
	}
	if seen[api.OK] < 500 || seen[api.ErrUnsafe] < 100 {
		t.Errorf("errors %v", seen)
	}
	for _, s := range texts {
		c := read(t, s)
		for fn := range c.Fns {
			placesOf(t, c, fn)
		}
	}
}

// inPlaces: the same code, with a register for each place. Ahead of all else the parameters are moved to theirs, one after the other; the other places are 0 then.
func inPlaces(t *testing.T, c api.Code) api.Code {
	t.Helper()
	d := ir.Copy(c)
	for fn := range d.Fns {
		f := &d.Fns[fn]
		places := placesOf(t, c, fn)
		held := slices.Compact(slices.Sorted(slices.Values(places)))
		to := func(register *int) { *register = f.Params + slices.Index(held, places[*register]) }
		begin := api.Part{Cond: -1, Next: 1}
		for r := range f.Params {
			i := api.Inst{Op: api.IMove, Dst: r, A: r}
			to(&i.Dst)
			begin.Insts = append(begin.Insts, i)
		}
		f.Regs = f.Params + len(held)
		for n := range f.Parts {
			p := &f.Parts[n]
			for k := range p.Insts {
				i := &p.Insts[k]
				writes := wroteLast([]api.Inst{*i}, i.Dst) == 0
				for _, r := range readBy(i) {
					to(r)
				}
				if writes {
					to(&i.Dst)
				}
			}
			if p.Cond >= 0 {
				to(&p.Cond)
			}
			p.Next, p.Else = p.Next+1, p.Else+1
		}
		f.Parts = slices.Insert(f.Parts, 0, begin)
	}
	return d
}

// P23.2: a run does the same if registers are kept where Places says.
func TestRunInPlaces(t *testing.T) {
	r := rand.New(rand.NewSource(34))
	ends := map[api.Trap]int{}
	for n := range 4000 {
		c, fuel := crowded(r), 400
		switch {
		case n%20 == 0:
			c, fuel = lowered(t, drawn(t, r)), 200000
		case n%4 == 0:
			c = asking(r)
		}
		want := outcome(t, c, fuel)
		if want.Fuel {
			continue
		}
		got := outcome(t, inPlaces(t, c), api.MaxFuel)
		if got.Steps = want.Steps; !alike(want, got) {
			t.Fatalf("%+v became %+v: %+v; want %+v", c, inPlaces(t, c), got, want)
		}
		ends[want.Trap]++
	}
	if ends[api.NoTrap] < 500 || len(ends) < 5 {
		t.Errorf("ends %v", ends)
	}
}

// P23.1, P23.2, P1: code that isn't right, functions that there are not, lists of any length.
func TestAllocErrors(t *testing.T) {
	r := rand.New(rand.NewSource(35))
	seen := map[api.Errno]int{}
	for range 20000 {
		c := madeUp(r)
		if r.Intn(2) == 0 {
			spoil(r, &c)
		}
		fn := []int{0, len(c.Fns) - 1, len(c.Fns), -1, -1 << 63, 1<<63 - 1}[r.Intn(6)]
		want := ir.Valid(c)
		if want == api.OK && (fn < 0 || fn >= len(c.Fns)) {
			want = api.ErrNone
		}
		places, e := alloc.Places(c, fn)
		if e != want || e != api.OK && len(places) > 0 {
			t.Fatalf("Places(%+v, %d) = %v, %d; want %d", c, fn, places, e, want)
		}
		seen[e]++
		l := make([]int, r.Intn(8))
		for k := range l {
			l[k] = r.Intn(9) - 2
		}
		if want == api.OK && len(l) != c.Fns[fn].Regs {
			want = api.ErrForm
		} else if want == api.OK {
			want = pairsOf(c.Fns[fn]).wrongFor(l)
		}
		if e := alloc.Check(c, fn, l); e != want {
			t.Fatalf("Check(%+v, %d, %v) = %d; want %d", c, fn, l, e, want)
		}
	}
	if seen[api.OK] < 2000 || seen[api.ErrForm] < 2000 || seen[api.ErrNone] < 2000 {
		t.Errorf("errors %v", seen)
	}
}

// P2, and the rule of memory: the same arguments give the same answers; what is handed in is neither changed nor kept, and places are new memory.
func TestAllocMemory(t *testing.T) {
	r := rand.New(rand.NewSource(36))
	for range 2000 {
		c := withRoom(crowded(r))
		held := inner(c)
		fn := r.Intn(len(c.Fns))
		first, _ := alloc.Places(c, fn)
		kept := slices.Clone(all(first))
		second, _ := alloc.Places(c, fn)
		for k := range all(first) {
			all(first)[k] = 77
		}
		third, _ := alloc.Places(c, fn)
		if !slices.Equal(kept, all(second)) || !slices.Equal(kept, all(third)) {
			t.Fatalf("Places(%+v, %d): two answers", c, fn)
		}
		l := roomy(nearby(r, second), 77)
		handed := slices.Clone(all(l))
		e := alloc.Check(c, fn, l)
		if again := alloc.Check(c, fn, l); again != e {
			t.Fatalf("Check(%+v, %d, %v): two answers", c, fn, l)
		}
		if !slices.Equal(handed, all(l)) || !reflect.DeepEqual(held, inner(c)) {
			t.Fatalf("%+v, %v: what was handed in is changed", c, l)
		}
		var every lists
		every.add(c)
		every.apart(t)
		if !slices.Equal(kept, all(second)) {
			t.Fatal("places share memory with the code")
		}
	}
}

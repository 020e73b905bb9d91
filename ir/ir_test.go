package ir

import (
	"math"
	"reflect"
	"slices"
	"testing"

	"burin/api"
)

// The signatures that the chapter lists.
var (
	_ func(api.Inst) bool      = Dst
	_ func(api.Inst) []int     = Uses
	_ func(api.Inst) bool      = Pure
	_ func(api.Code) api.Errno = Valid
	_ func(api.Code) api.Code  = Copy
	_ func(api.Code) int       = Count
)

// A row of the chapter's table: which of A and B are read ("c" for Args), whether Dst is written, whether it is pure.
type row struct {
	op    byte
	reads string
	dst   bool
	pure  bool
}

func table() []row {
	var rows []row
	for op := byte(1); op <= 16; op++ {
		rows = append(rows, row{op, "ab", true, true})
	}
	return append(rows,
		row{20, "", true, true},     // IConst
		row{21, "a", true, true},    // IMove
		row{22, "a", true, true},    // INeg
		row{23, "a", true, true},    // INot
		row{24, "a", true, true},    // IBang
		row{25, "a", true, true},    // ICast
		row{26, "", true, true},     // ISlot
		row{27, "", true, true},     // IGlobal
		row{28, "ab", true, true},   // IIndex
		row{29, "a", true, true},    // IOff
		row{30, "a", true, false},   // ILoad
		row{31, "ab", false, false}, // IStore
		row{32, "c", true, false},   // ICall
		row{33, "a", false, false},  // IPrint
	)
}

var rows = table()

// rowOf: the zero row of an Op that there is not.
func rowOf(op byte) row {
	for _, r := range rows {
		if r.op == op {
			return r
		}
	}
	return row{}
}

func (r row) uses(i api.Inst) []int {
	var l []int
	for _, c := range r.reads {
		switch c {
		case 'a':
			l = append(l, i.A)
		case 'b':
			l = append(l, i.B)
		default:
			l = append(l, i.Args...)
		}
	}
	return l
}

// The chapter's examples.
func TestExamples(t *testing.T) {
	valid(t, "no functions", api.Code{}, api.ErrForm)
	one := api.Code{Fns: []api.Fn{{Regs: 1, Parts: []api.Part{{End: true}}}}}
	valid(t, "an End", one, api.OK)
	if n := Count(one); n != 1 {
		t.Errorf("Count = %d", n)
	}
	if l := Uses(api.Inst{Op: api.ICall, Args: []int{3, 3}}); !slices.Equal(l, []int{3, 3}) {
		t.Errorf("Uses = %v", l)
	}
	if !Pure(api.Inst{Op: api.Div}) {
		t.Error("a division is not pure")
	}
}

// P13.1: every Op, those that there are not too, with registers that are the same, none, and the greatest and least numbers.
func TestEachOp(t *testing.T) {
	args := [][]int{nil, {}, {3}, {3, 3}, {9, -1, 9, 0}}
	places := []int{0, 1, 7, -1, math.MinInt, math.MaxInt}
	for op := range 256 {
		r := rowOf(byte(op))
		for _, a := range places {
			for _, b := range places {
				for _, list := range args {
					i := api.Inst{Op: byte(op), Type: byte(a), Dst: b, A: a, B: b, Imm: int64(b), Args: list}
					if Dst(i) != r.dst || Pure(i) != r.pure {
						t.Errorf("%v: Dst %v, Pure %v", i, Dst(i), Pure(i))
					}
					if l := Uses(i); !slices.Equal(l, r.uses(i)) {
						t.Errorf("Uses(%v) = %v; want %v", i, l, r.uses(i))
					}
				}
			}
		}
	}
}

// Rules, P2: what Uses answers is new memory, and nothing stands in its spare room.
func TestUsesMemory(t *testing.T) {
	room := []int{1, 2, 3, 4}
	call := api.Inst{Op: api.ICall, Args: room[:2]}
	first, second := Uses(call), Uses(call)
	first[0] = 77
	first = append(first, 78)
	if !slices.Equal(room, []int{1, 2, 3, 4}) || !slices.Equal(second, []int{1, 2}) {
		t.Errorf("what was answered is shared: %v, %v, %v", room, second, first)
	}
	room[1] = 9
	if !slices.Equal(second, []int{1, 2}) {
		t.Error("what was handed in is kept")
	}
	for op := range 256 {
		i := api.Inst{Op: byte(op), A: 5, B: 6, Args: room[:3]}
		l := Uses(i)
		for _, v := range l[len(l):cap(l)] {
			if v != 0 {
				t.Errorf("Op %d: %v in the spare room", op, v)
			}
		}
	}
}

// P13.2: Count looks at instructions and parts alone, of wrong code too.
func TestCount(t *testing.T) {
	part := func(n int) api.Part { return api.Part{Insts: make([]api.Inst, n)} }
	for _, r := range []struct {
		fns  []api.Fn
		want int
	}{
		{nil, 0},
		{[]api.Fn{}, 0},
		{[]api.Fn{{}}, 0},
		{[]api.Fn{{Regs: 9, Params: 4, Slots: []int{1, 2}}}, 0},
		{[]api.Fn{{Parts: []api.Part{{}}}}, 1},
		{[]api.Fn{{Parts: []api.Part{{}, {}}}}, 2},
		{[]api.Fn{{Parts: []api.Part{part(1)}}}, 2},
		{[]api.Fn{{Parts: []api.Part{part(5), part(0), part(2)}}, {}, {Parts: []api.Part{part(3)}}}, 14},
	} {
		c := api.Code{Globals: []int{1, 2, 3}, Inits: []int64{5}, Fns: r.fns}
		if n := Count(c); n != r.want {
			t.Errorf("Count(%v) = %d; want %d", c, n, r.want)
		}
	}
	args := make([]int, 50)
	c := api.Code{Fns: []api.Fn{{Parts: []api.Part{{Insts: []api.Inst{{Op: 99, Args: args}, {Op: api.ICall, Args: args}}}}}}}
	if n := Count(c); n != 3 {
		t.Errorf("Count = %d; want 3", n)
	}
}

// filled is code in which every field is other than zero, and every list has spare room.
func filled() api.Code {
	inst := func(n int) api.Inst {
		return api.Inst{Op: byte(n), Type: 7, Dst: n + 1, A: n + 2, B: n + 3, Imm: int64(n) << 40, Args: append(make([]int, 0, 9), n, n+1)}
	}
	part := func(n int) api.Part {
		return api.Part{Insts: append(make([]api.Inst, 0, 5), inst(n), inst(n+10)), End: n%2 == 0, Cond: n, Next: -n, Else: n + 5}
	}
	fn := func(n int) api.Fn {
		return api.Fn{Params: n, Regs: n + 1, Slots: append(make([]int, 0, 7), n+2, 4), Parts: append(make([]api.Part, 0, 4), part(n), part(n+1))}
	}
	return api.Code{
		Globals: append(make([]int, 0, 6), 3, 1, 2),
		Inits:   append(make([]int64, 0, 6), -7, 8),
		Fns:     append(make([]api.Fn, 0, 3), fn(1), fn(3)),
	}
}

// spoil writes over every element of every list, and over their spare room.
func spoil(c *api.Code) {
	for i := range c.Fns {
		f := &c.Fns[i]
		for j := range f.Parts {
			p := &f.Parts[j]
			for k := range p.Insts {
				over(p.Insts[k].Args, 99)
			}
			over(p.Insts, api.Inst{Op: 99})
		}
		over(f.Parts, api.Part{Cond: 99})
		over(f.Slots, 99)
	}
	over(c.Globals, 99)
	over(c.Inits, 99)
	over(c.Fns, api.Fn{Regs: 99})
}

func over[T any](l []T, v T) {
	l = l[:cap(l)]
	for i := range l {
		l[i] = v
	}
}

// P13.2, P2: a copy is the same, and shares no memory with its code, nor with another copy.
func TestCopy(t *testing.T) {
	c := filled()
	first, second := Copy(c), Copy(c)
	if !reflect.DeepEqual(c, filled()) || !reflect.DeepEqual(first, filled()) || !reflect.DeepEqual(second, filled()) {
		t.Fatalf("Copy = %v", first)
	}
	spoil(&first)
	if !reflect.DeepEqual(c, filled()) || !reflect.DeepEqual(second, filled()) {
		t.Error("a copy shares memory")
	}
	spoil(&c)
	if !reflect.DeepEqual(second, filled()) {
		t.Error("a copy shares memory with its code")
	}
}

// Rules: the spare room of what is handed in is not changed, and a copy has none that is another's.
func TestCopyRoom(t *testing.T) {
	c := filled()
	for i := range c.Fns {
		f := &c.Fns[i]
		over(f.Slots[len(f.Slots):], 55)
		over(f.Parts[len(f.Parts):], api.Part{Next: 55})
	}
	over(c.Globals[3:], 55)
	d := Copy(c)
	spoil(&d)
	for i := range c.Fns {
		f := &c.Fns[i]
		if f.Slots[:7][6] != 55 || f.Parts[:4][3].Next != 55 {
			t.Errorf("function %d: %v", i, f.Slots[:7])
		}
	}
	if c.Globals[:6][5] != 55 {
		t.Error("the globals' spare room")
	}
}

// P13.2: lists that share memory with each other are copied apart.
func TestCopyApart(t *testing.T) {
	ints := []int{1, 2, 3}
	insts := []api.Inst{{Op: api.ICall, Args: ints}, {Op: api.ICall, Args: ints}}
	parts := []api.Part{{Insts: insts}, {Insts: insts}}
	c := api.Code{Globals: ints, Fns: []api.Fn{{Slots: ints, Parts: parts}, {Slots: ints, Parts: parts}}}
	d := Copy(c)
	d.Globals[0] = 10
	d.Fns[0].Slots[0] = 11
	d.Fns[1].Slots[0] = 12
	d.Fns[0].Parts[0].Insts[0].Args[0] = 13
	d.Fns[0].Parts[0].Insts[1].Args[0] = 14
	d.Fns[0].Parts[1].Insts[0].Args[0] = 15
	d.Fns[1].Parts[0].Insts[0].Args[0] = 16
	d.Fns[1].Parts[1].Insts[1].Op = 17
	if ints[0] != 1 || d.Globals[0] != 10 || d.Fns[0].Slots[0] != 11 || d.Fns[1].Slots[0] != 12 {
		t.Errorf("Copy = %v of %v", d, c)
	}
	for n, i := range map[int]api.Inst{13: d.Fns[0].Parts[0].Insts[0], 14: d.Fns[0].Parts[0].Insts[1], 15: d.Fns[0].Parts[1].Insts[0], 16: d.Fns[1].Parts[0].Insts[0]} {
		if i.Args[0] != n || i.Op != api.ICall {
			t.Errorf("%v; want %d", i, n)
		}
	}
}

// P13.2: code without lists, and with empty ones.
func TestCopyOfNothing(t *testing.T) {
	for _, c := range []api.Code{
		{},
		{Globals: []int{}, Inits: []int64{}, Fns: []api.Fn{}},
		{Fns: []api.Fn{{}}},
		{Fns: []api.Fn{{Slots: []int{}, Parts: []api.Part{}}}},
		{Fns: []api.Fn{{Parts: []api.Part{{}, {Insts: []api.Inst{}}}}}},
		{Fns: []api.Fn{{Parts: []api.Part{{Insts: []api.Inst{{}, {Args: []int{}}}}}}}},
	} {
		if d := Copy(c); !reflect.DeepEqual(c, d) {
			t.Errorf("Copy(%v) = %v", c, d)
		}
	}
}

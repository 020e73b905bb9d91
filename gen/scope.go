package gen

import (
	"slices"

	"burin/api"
)

// variable is one that is known where something is made.
type variable struct {
	name   string
	kind   api.Type
	fields []api.Node // of a struct
	loop   bool
	low    int64 // of a loop's: the numbers that it holds; of one without a round there are none, and what is made of them isn't looked at
	high   int64
}

// source is what holds a number: a variable, or something in it.
type source struct {
	variable
	field string // of a struct
	holds want   // what the number can be
}

// within makes what stands in a scope of its own.
func (m *maker) within(inside func()) {
	outer, begin := m.inner, len(m.known)
	m.inner = begin
	inside()
	m.inner, m.known = outer, m.known[:begin]
}

// hiding: a name for a variable; at times that of one of the scopes about, which it hides.
func (m *maker) hiding(prefix string) string {
	if m.Below(8) == 7 && m.inner > 0 {
		name := m.known[m.Below(m.inner)].name
		if !m.named(m.inner, name) {
			return name
		}
	}
	return m.name(prefix)
}

// named: has one of the variables from a place on that name?
func (m *maker) named(from int, name string) bool {
	return slices.ContainsFunc(m.known[from:], func(v variable) bool { return v.name == name })
}

// sources: all that can be read, the latest first.
func (m *maker) sources() []source {
	var list []source
	for i := len(m.known) - 1; i >= 0; i-- {
		if v := m.known[i]; !m.named(i+1, v.name) {
			list = append(list, v.sources()...)
		}
	}
	return list
}

func (v variable) sources() []source {
	var list []source
	switch {
	case v.loop:
		list = append(list, source{v, "", want{api.I32, v.low, v.high}})
	case v.kind.Kind != api.TStruct:
		list = append(list, source{v, "", whole(v.kind.Int)})
	}
	for _, f := range v.fields {
		list = append(list, source{v, f.Name, whole(f.Type.Int)})
	}
	return list
}

// writable: all that can be written.
func (m *maker) writable() []source {
	return slices.DeleteFunc(m.sources(), func(s source) bool { return s.loop })
}

// writableOf: all that can be written with a number of a type.
func (m *maker) writableOf(t byte) []source {
	return slices.DeleteFunc(m.writable(), func(s source) bool { return s.holds.t != t })
}

// readable: all that holds nothing but what is wanted, and is read in so many nodes.
func (m *maker) readable(w want, nodes int) []source {
	return slices.DeleteFunc(m.sources(), func(s source) bool {
		return s.least() > nodes || s.holds.t != w.t || !s.holds.in(w)
	})
}

// castable: all that is as wanted once it is cast, and is read in so many nodes.
func (m *maker) castable(w want, nodes int) []source {
	return slices.DeleteFunc(m.sources(), func(s source) bool {
		return s.least() > nodes || !w.free() && !s.holds.in(w)
	})
}

// least: how many nodes a source has at least, where it is read or written.
func (s source) least() int {
	if s.kind.Kind == api.TArray {
		return 2
	}
	return 1
}

// place: the node that reads or writes a source.
func (m *maker) place(s source, depth, nodes int) api.Node {
	n := api.Node{Kind: api.Var, Name: s.name}
	switch s.kind.Kind {
	case api.TArray:
		t := api.I32
		if m.Below(3) == 2 {
			t = m.anyInt()
		}
		n.Kind = api.Index
		n.Kids = []api.Node{m.expression(want{t, 0, int64(s.kind.N) - 1}, depth-1, nodes-1)}
	case api.TStruct:
		n.Kind, n.Field = api.Member, s.field
	case api.TRef:
		n.Kind = api.Deref
	}
	return n
}

// start: the same list, begun at a drawn place.
func (m *maker) start(list []source) []source {
	at := m.Below(len(list))
	return append(append([]source(nil), list[at:]...), list[:at]...)
}

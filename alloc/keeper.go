package alloc

import (
	"cmp"
	"slices"
)

// keeper finds places for lives, so that no two that have a point in common have the same.
type keeper struct {
	places  []int      // of each register; one that never holds anything may be kept anywhere
	machine [Free]life // of each register of the machine what it holds, or has held last
	rest    []life     // for these no register of the machine was left
}

func (k *keeper) keep(lives []life) {
	inOrder(lives, func(l life) int { return l.first })
	for _, l := range lives {
		k.inMachine(l)
	}
	k.inCells()
}

// inOrder puts lives in order by a number of each; those with the same, by their registers.
func inOrder(lives []life, number func(life) int) {
	slices.SortFunc(lives, func(a, b life) int {
		return cmp.Or(cmp.Compare(number(a), number(b)), cmp.Compare(a.register, b.register))
	})
}

// inMachine gives a life a register of the machine whose life is over. If there is none, of all that are there and this one, the one that lasts longest must go.
func (k *keeper) inMachine(l life) {
	longest := 0
	for n, held := range k.machine {
		if held.last < l.first {
			k.hold(n, l)
			return
		}
		if held.last > k.machine[longest].last {
			longest = n
		}
	}
	if held := k.machine[longest]; held.last > l.last {
		k.hold(longest, l)
		l = held
	}
	k.rest = append(k.rest, l)
}

func (k *keeper) hold(n int, l life) {
	k.machine[n] = l
	k.places[l.register] = n
}

// inCells gives each life that is left a cell whose life is over; a new one, if there is none.
func (k *keeper) inCells() {
	over := slices.Clone(k.rest)
	inOrder(over, func(l life) int { return l.last })
	inOrder(k.rest, func(l life) int { return l.first })
	var free []int
	next := -1
	for _, l := range k.rest {
		// What is over ahead of this one has begun ahead of it, too, and has its cell. This one isn't over: so there is an end.
		for ; over[0].last < l.first; over = over[1:] {
			free = append(free, k.places[over[0].register])
		}
		if len(free) == 0 {
			free, next = append(free, next), next-1
		}
		top := len(free) - 1
		k.places[l.register], free = free[top], free[:top]
	}
}

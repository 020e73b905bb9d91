// Package tape is layer 2: draws that are used up one by one (see shared/doc/02-tape.md).
package tape

import (
	"burin/api"
)

const (
	maxWeight = 1 << 20 // what a greater weight counts as
	maxSum    = 1 << 30 // of the weights of one pick
)

// Draw is a draw that was asked for: below what, and what it was.
type Draw struct {
	Bound int
	Value int
}

// Tape is a list of draws that are used up one by one.
type Tape struct {
	draws []uint64
	used  int
	log   []Draw
}

// New: a tape of draws.
func New(draws []uint64) (*Tape, api.Errno) {
	if len(draws) > api.MaxTape {
		return nil, api.ErrLong
	}
	own := make([]uint64, len(draws))
	copy(own, draws)
	return &Tape{draws: own}, api.OK
}

// Below: a number from 0 on below n.
func (t *Tape) Below(n int) int {
	if t == nil || n <= 0 {
		return 0
	}
	value := 0
	if t.used < len(t.draws) {
		// The draw is taken as it is: as an int it could be below 0, and so its rest.
		value = int(t.draws[t.used] % uint64(n))
		t.used++
	}
	t.log = append(t.log, Draw{Bound: n, Value: value})
	return value
}

// Pick: a place of a list of weights, each as often as its weight.
func (t *Tape) Pick(weights []int) int {
	if t == nil {
		return 0
	}
	sum := 0
	for _, w := range weights {
		sum += counted(w)
		if sum > maxSum {
			return 0
		}
	}
	drawn := t.Below(sum)
	upTo := 0
	for place, w := range weights {
		upTo += counted(w)
		if upTo > drawn {
			return place
		}
	}
	return 0
}

// Used: how many draws were used up.
func (t *Tape) Used() int {
	if t == nil {
		return 0
	}
	return t.used
}

// Left: how many draws are left.
func (t *Tape) Left() int {
	if t == nil {
		return 0
	}
	return len(t.draws) - t.used
}

// Log: what was asked for, in order.
func (t *Tape) Log() []Draw {
	if t == nil {
		return nil
	}
	log := make([]Draw, len(t.log))
	copy(log, t.log)
	return log
}

func counted(weight int) int {
	return min(max(weight, 0), maxWeight)
}

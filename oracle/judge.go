package oracle

import (
	"slices"

	"burin/api"
	"burin/eval"
	"burin/safe"
	"burin/vm"
)

// Verdict is what is said of a program: of one that is invalid the node at fault and why; else how many steps it takes at most, what it should do, and what the machine did.
type Verdict struct {
	Kind  byte
	At    int
	E     api.Errno
	Bound int
	Want  api.Outcome
	Got   api.Outcome
}

// The verdicts.
const (
	Invalid  byte = 0
	Agree    byte = 1
	Mismatch byte = 2
)

// How many steps the machine has for each step of a program, and besides.
const (
	fuelForStep = 300
	fuelBesides = 1000
)

// Fuel: how many steps the machine has for a program that takes so many. Of a bound that no program has, too, it is a fuel that the machine takes.
func Fuel(bound int) int {
	bound = min(max(bound, 0), api.MaxFuel/fuelForStep)
	return min(fuelForStep*bound+fuelBesides, api.MaxFuel)
}

// Judge: does the machine do what a program should?
func Judge(n api.Node, passes, faults byte) Verdict {
	bound, at, e := safe.Check(n)
	if e != api.OK {
		return Verdict{Kind: Invalid, At: at, E: e}
	}
	image, at, e := Compile(n, passes, faults)
	if e != api.OK {
		return Verdict{Kind: Invalid, At: at, E: e}
	}
	// What is safe is right, and what is compiled is an image that the machine takes: neither run is refused.
	v := Verdict{Kind: Mismatch, Bound: bound}
	v.Want, _, _ = eval.Run(n, bound)
	v.Got, _ = vm.Run(image, Fuel(bound))
	if agrees(v.Want, v.Got) {
		v.Kind = Agree
	}
	return v
}

// agrees: did the machine halt with what it should answer, and print what it should?
func agrees(want, got api.Outcome) bool {
	return got.Halted && got.Exit == want.Exit && slices.Equal(got.Trace, want.Trace)
}

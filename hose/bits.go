package hose

import (
	"iter"

	"forecourt/api"
)

// bits is a set of steps, with a bit for each one.
type bits uint16

// table is a set for each step.
type table [api.MaxHoseSteps]bits

// bitsOf returns the set of some steps.
func bitsOf(steps ...int) bits {
	var s bits
	for _, step := range steps {
		s |= 1 << step
	}
	return s
}

func (s bits) has(step int) bool     { return s>>step&1 == 1 }
func (s bits) covers(part bits) bool { return part&^s == 0 }

// steps yields the steps of a set, strictly increasing.
func (s bits) steps(yield func(int) bool) {
	for step := range api.MaxHoseSteps {
		if s.has(step) && !yield(step) {
			return
		}
	}
}

// first returns the first element that is of a kind, and whether there is one.
func first[T any](list iter.Seq[T], is func(T) bool) (T, bool) {
	for x := range list {
		if is(x) {
			return x, true
		}
	}
	var none T
	return none, false
}

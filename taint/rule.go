package taint

import (
	"iter"

	"forecourt/api"
)

// rule tells when a move brings taint into its To that is in its From since some time, or
// TaintNever if it does not. Of later taint it brings none earlier.
type rule func(m api.TaintMove, since int64) int64

// earliest is the rule of trails: a move is made as soon as it can carry taint.
func earliest(m api.TaintMove, since int64) int64 {
	if since > m.Time.Hi {
		return api.TaintNever
	}
	return max(since, m.Time.Lo)
}

// surely is the rule of sure trails: a move carries taint whenever it is made, but it may be made late.
func surely(m api.TaintMove, since int64) int64 {
	if since > m.Time.Lo {
		return api.TaintNever
	}
	return m.Time.Hi
}

// noMove leaves out no move.
func noMove(api.TaintMove) bool { return false }

// into leaves out the moves into a vessel.
func into(vessel int) func(api.TaintMove) bool {
	return func(m api.TaintMove) bool { return m.To == vessel }
}

// least returns the first element with the least number, and whether there is an element.
func least[T any](list iter.Seq[T], number func(T) int64) (T, bool) {
	var best T
	found := false
	for x := range list {
		if !found || number(x) < number(best) {
			best, found = x, true
		}
	}
	return best, found
}

// chosen returns the numbers from 0 to n - 1 that are of a kind, increasing.
func chosen(n int, is func(int) bool) []int {
	var list []int
	for i := range n {
		if is(i) {
			list = append(list, i)
		}
	}
	return list
}

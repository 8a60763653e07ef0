package hose

import (
	"iter"
	"slices"

	"forecourt/api"
)

// work is a job with its bits.
type work struct {
	api.HoseJob
	before table // what must come before each step
}

// openJob returns the bits of a job that may have a circle, or the error of Circle.
func openJob(j api.HoseJob) (*work, api.Errno) {
	if e := checkParts(j); e != api.OK {
		return nil, e
	}
	return &work{j, beforeOf(j.Before)}, api.OK
}

// workOf returns the bits of a valid job, or the error of CheckJob.
func workOf(j api.HoseJob) (*work, api.Errno) {
	w, e := openJob(j)
	if e == api.OK && w.circling() != 0 {
		return nil, api.ErrOrder
	}
	return w, e
}

// beforeOf returns what must come before each step: what comes before it by a
// pair, and what must come before that, until nothing more is found.
func beforeOf(pairs [][2]int) table {
	var now, last table
	for _, p := range pairs {
		now[p[1]] |= bitsOf(p[0])
	}
	for now != last {
		last = now
		for step, earlier := range last {
			for other := range earlier.steps {
				now[step] |= last[other]
			}
		}
	}
	return now
}

// circling returns the steps that are on a circle: they would have to come before themselves.
func (w *work) circling() bits {
	var on bits
	for step, earlier := range w.before {
		if earlier.has(step) {
			on |= bitsOf(step)
		}
	}
	return on
}

// circle returns a circle of some of the steps that are on one. Each of them
// comes before another one by a pair, so a walk comes back to where it was.
func (w *work) circle(on bits) []int {
	at, _ := first(on.steps, on.has)
	var walked []int
	for !slices.Contains(walked, at) {
		walked = append(walked, at)
		pair, _ := first(slices.Values(w.Before), func(p [2]int) bool { return p[0] == at && on.has(p[1]) })
		at = pair[1]
	}
	return walked[slices.Index(walked, at):]
}

// all returns the state in which all steps are done.
func (w *work) all() bits { return 1<<len(w.Steps) - 1 }

// isState reports whether a set has, with each step, all that must come before it.
func (w *work) isState(s bits) bool {
	_, lacking := first(s.steps, func(step int) bool { return !s.covers(w.before[step]) })
	return !lacking
}

// states yields all states. One with more steps is a greater number, so it comes
// before those from which steps lead to it.
func (w *work) states(yield func(bits) bool) {
	for n := int(w.all()); n >= 0; n-- {
		if w.isState(bits(n)) && !yield(bits(n)) {
			return
		}
	}
}

// next yields the steps that can be next in a state.
func (w *work) next(done bits) iter.Seq[int] {
	return func(yield func(int) bool) {
		for step := range w.Steps {
			if !done.has(step) && done.covers(w.before[step]) && !yield(step) {
				return
			}
		}
	}
}

// onward returns in how many orders the steps that a state lacks can come, if all
// states on the way fit. States from which the end is not reached are not in it.
func (w *work) onward(fits func(bits) bool) map[bits]int64 {
	orders := map[bits]int64{}
	for done := range w.states {
		if done == w.all() {
			orders[done] = 1
		}
		for step := range w.next(done) {
			orders[done] += orders[done|bitsOf(step)]
		}
		if orders[done] == 0 || !fits(done) {
			delete(orders, done)
		}
	}
	return orders
}

// grow returns the steps in the order in which they come if always the first one is next that fits.
func (w *work) grow(fits func(done bits, step int) bool) []int {
	var room [api.MaxHoseSteps]int
	// The third index keeps out steps that the job does not have.
	grown := room[:0:len(w.Steps)]
	done := bits(0)
	for {
		step, found := first(w.next(done), func(step int) bool { return fits(done, step) })
		if !found {
			break
		}
		grown = append(grown, step)
		done |= bitsOf(step)
	}
	order := make([]int, len(grown))
	copy(order, grown)
	return order
}

// inParts returns the first order in which the parts come one after the other. Each
// part, together with those before it, has to be a state, and the last one has all steps.
func (w *work) inParts(parts ...bits) []int {
	return w.grow(func(done bits, step int) bool {
		part, _ := first(slices.Values(parts), func(p bits) bool { return !done.covers(p) })
		return part.has(step)
	})
}

// checkOrder returns the error of CheckOrder.
func (w *work) checkOrder(order []int) api.Errno {
	if len(order) != len(w.Steps) {
		return api.ErrEqual
	}
	if !indexes(len(w.Steps), order...) || bitsOf(order...) != w.all() {
		return api.ErrRange
	}
	for i, step := range order {
		if !bitsOf(order[:i]...).covers(w.before[step]) {
			return api.ErrRule
		}
	}
	return api.OK
}

// stateOf returns the set of a list that is a state, or the error of CheckState.
func (w *work) stateOf(list []int) (bits, api.Errno) {
	last := -1
	for _, step := range list {
		if step <= last || step >= len(w.Steps) {
			return 0, api.ErrRange
		}
		last = step
	}
	s := bitsOf(list...)
	if !w.isState(s) {
		return 0, api.ErrRule
	}
	return s, api.OK
}

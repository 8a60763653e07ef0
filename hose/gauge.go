package hose

import (
	"slices"

	"forecourt/api"
)

// gauge is a job with its bits, and one of its tanks.
type gauge struct {
	*work
	tank int
}

// gaugeOf returns the gauge of a tank of a valid job, or the error of all functions with a tank.
func gaugeOf(j api.HoseJob, tank int) (gauge, api.Errno) {
	w, e := workOf(j)
	if e != api.OK {
		return gauge{}, e
	}
	if !indexes(len(w.Caps), tank) {
		return gauge{}, api.ErrArg
	}
	return gauge{w, tank}, api.OK
}

// level returns the level of the tank in a state.
func (g gauge) level(done bits) int64 {
	litres := g.Start[g.tank]
	for step := range done.steps {
		if g.Steps[step].Tank == g.tank {
			litres += g.Steps[step].Change
		}
	}
	return litres
}

// at returns the level of the tank in a state, and the state, as Highest and Lowest do.
func (g gauge) at(done bits) (int64, []int, api.Errno) {
	return g.level(done), slices.Collect(done.steps), api.OK
}

// greatest returns a state of which a number is greatest.
func (w *work) greatest(number func(bits) int64) bits {
	best := bits(0)
	most := number(best)
	for done := range w.states {
		if n := number(done); n > most {
			best, most = done, n
		}
	}
	return best
}

// holds reports whether in a state no tank overflows, or has less than nothing.
func (w *work) holds(done bits) bool {
	for tank, most := range w.Caps {
		if !within(0, most, gauge{w, tank}.level(done)) {
			return false
		}
	}
	return true
}

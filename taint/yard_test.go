package taint_test

import (
	"slices"
	"testing"

	"forecourt/api"
	"forecourt/taint"
)

// invalid is a yard that is not valid, with the error of CheckYard.
type invalid struct {
	y api.TaintYard
	e api.Errno
}

// bad returns yards that are not valid.
func bad() []invalid {
	full := slices.Repeat([]api.TaintMove{move(0, 1, 0, 9)}, 40)
	l := []invalid{
		{yard(0), api.ErrArg},
		{yard(-1), api.ErrArg},
		{yard(21), api.ErrArg},
		{yard(least), api.ErrArg},
		{yard(most), api.ErrArg},
		{yard(0, append(full, move(0, 0, 0, 0))...), api.ErrArg},
		{yard(21, move(0, 0, 0, 0)), api.ErrArg},
		{yard(2, append(full, move(0, 1, 0, 9))...), api.ErrMany},
		{yard(2, append(full, move(0, 0, 9, 0))...), api.ErrMany},
		{yard(1, make([]api.TaintMove, 5000)...), api.ErrMany},
		{yard(1, move(0, 1, 0, 9)), api.ErrRange},
		{yard(2, append(full[:39:39], move(0, 0, 0, 9))...), api.ErrRange},
	}
	for _, m := range []api.TaintMove{
		move(0, 6, 0, 9), move(6, 0, 0, 9), move(0, -1, 0, 9), move(-1, 0, 0, 9), move(3, 3, 0, 9), move(-1, -1, 0, 9),
		move(least, 1, 0, 9), move(1, most, 0, 9),
		move(0, 1, 9, 8), move(0, 1, -1, 9), move(0, 1, -2, -1), move(0, 1, 0, 100001), move(0, 1, 100001, 100001),
		move(0, 1, least, most), move(0, 1, most, least), move(0, 1, never, never),
	} {
		l = append(l,
			invalid{changed(chapter(), func(y *api.TaintYard) { y.Moves[4] = m }), api.ErrRange},
			invalid{changed(chapter(), func(y *api.TaintYard) { y.Moves[0] = m }), api.ErrRange})
	}
	return l
}

// good returns yards that are valid.
func good() []api.TaintYard {
	return []api.TaintYard{
		chapter(),
		fork(),
		yard(1),
		yard(20),
		yard(2, slices.Repeat([]api.TaintMove{move(1, 0, 0, 100000)}, 40)...),
		yard(2, move(0, 1, 0, 0), move(1, 0, 100000, 100000)),
		yard(20, move(0, 19, 3, 3), move(19, 0, 3, 3)),
	}
}

// P5.1
func TestCheckYard(t *testing.T) {
	for i, y := range good() {
		want(t, taint.CheckYard(y), api.OK, i)
	}
	for i, x := range bad() {
		want(t, taint.CheckYard(x.y), x.e, i)
	}
}

// startErrors returns the errors of all functions with a start, whose other arguments are not valid.
func startErrors(y api.TaintYard, s api.TaintStart) []api.Errno {
	_, e1 := taint.Arrivals(y, s)
	_, e2 := taint.Carried(y, s)
	_, e3 := taint.Sure(y, s)
	e4 := taint.CheckArrivals(y, s, times(-1))
	return append(vesselErrors(y, s, -1), e1, e2, e3, e4)
}

// vesselErrors returns the errors of all functions with a vessel, whose other arguments are not valid.
func vesselErrors(y api.TaintYard, s api.TaintStart, vessel int) []api.Errno {
	_, e1 := taint.Trail(y, s, vessel)
	_, e2 := taint.Passed(y, s, vessel)
	return []api.Errno{e1, e2, taint.CheckTrail(y, s, vessel, make([]int, 41), false), taint.CheckTrail(y, s, vessel, of(-1), true)}
}

// All functions return the error of CheckYard before all others.
func TestErrorsOfYards(t *testing.T) {
	for i, x := range bad() {
		for k, e := range startErrors(x.y, at(-1, -1)) {
			want(t, e, x.e, i, k)
		}
		for _, spoilt := range [][]int{nil, of(0), of(-1), make([]int, 41)} {
			_, e := taint.Causes(x.y, spoilt)
			want(t, e, x.e, i, spoilt)
		}
	}
}

// All functions with a start return ErrArg next.
func TestErrorsOfStarts(t *testing.T) {
	for i, s := range []api.TaintStart{
		at(-1, 0), at(6, 0), at(least, 0), at(most, 0), at(19, 5),
		at(0, -1), at(0, 100001), at(0, never), at(0, least), at(0, most),
	} {
		for k, e := range startErrors(chapter(), s) {
			want(t, e, api.ErrArg, i, k)
		}
	}
	for _, s := range []api.TaintStart{at(0, 0), at(5, 0), at(0, 100000), at(5, 100000)} {
		arrivals(t, chapter(), s)
	}
}

// All functions with a vessel return ErrRange next.
func TestErrorsOfVessels(t *testing.T) {
	for _, vessel := range of(-1, 6, 19, 20, least, most) {
		for k, e := range vesselErrors(chapter(), at(0, 5), vessel) {
			want(t, e, api.ErrRange, vessel, k)
		}
	}
}

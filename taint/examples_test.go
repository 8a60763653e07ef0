package taint_test

import (
	"testing"

	"forecourt/api"
	"forecourt/taint"
)

// The examples of the chapter.
func TestExamples(t *testing.T) {
	y, s := chapter(), at(0, 5)
	wantList(t, arrivals(t, y, s), times(5, 10, 15, never, 11, 16))
	wantList(t, carried(t, y, s), of(0, 2, 3, 4))
	wantList(t, sure(t, y, s), of(0, 1, 2))
	trail, e := taint.Trail(y, s, 5)
	want(t, e, api.OK)
	wantList(t, trail, of(0, 3, 4))
	_, e = taint.Trail(y, s, 3)
	want(t, e, api.ErrNone)
	want(t, taint.CheckTrail(y, s, 4, of(0, 2), false), api.OK)
	want(t, taint.CheckTrail(y, s, 4, of(0, 2), true), api.ErrRule)
	want(t, taint.CheckTrail(y, s, 2, of(0, 3), true), api.OK)
	passed, e := taint.Passed(y, s, 5)
	want(t, e, api.OK)
	wantList(t, passed, of(0, 1, 2, 5))
	causes, e := taint.Causes(y, of(2, 4))
	want(t, e, api.OK)
	wantList(t, causes, []api.TaintStart{at(0, 12), at(1, 18)})
	causes, e = taint.Causes(y, of(1))
	want(t, e, api.OK)
	wantList(t, causes, []api.TaintStart{at(1, 9)})
}

// What came into a compartment at 5 can have reached two customers of three, 4 and 5.
func TestCustomersOfTheExample(t *testing.T) {
	y, s := chapter(), at(0, 5)
	reached := map[int]bool{}
	for l := range timesOf(y) {
		in, _ := spread(y, s, l)
		for vessel, from := range in {
			reached[vessel] = reached[vessel] || from < never
		}
	}
	want(t, reached[3], false)
	want(t, reached[4] && reached[5], true)
}

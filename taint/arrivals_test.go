package taint_test

import (
	"slices"
	"testing"

	"forecourt/api"
	"forecourt/taint"
)

// P5.3
func TestArrivals(t *testing.T) {
	for i, x := range []struct {
		y api.TaintYard
		s api.TaintStart
		l []int64
	}{
		{chapter(), at(0, 0), times(0, 10, 15, never, 11, 16)},
		{chapter(), at(0, 12), times(12, 12, 15, never, 12, 16)},
		{chapter(), at(0, 13), times(13, never, never, never, never, never)},
		{chapter(), at(1, 9), times(never, 9, 15, 9, 11, 16)},
		{chapter(), at(1, 10), times(never, 10, 15, never, 11, 16)},
		{chapter(), at(2, 30), times(never, never, 30, never, never, 30)},
		{yard(1), at(0, 100000), times(100000)},
		{yard(3), at(1, 7), times(never, 7, never)},
		// at the last time, and at the same time
		{yard(3, move(0, 1, 0, 100000), move(1, 2, 100000, 100000)), at(0, 100000), times(100000, 100000, 100000)},
		{yard(3, move(1, 2, 5, 5), move(0, 1, 5, 5)), at(0, 5), times(5, 5, 5)},
		// a longer way is the earlier one, also if its moves come last, and two ways are as early
		{yard(4, move(0, 3, 50, 90), move(2, 3, 9, 9), move(1, 2, 6, 8), move(0, 1, 2, 4)), at(0, 1), times(1, 2, 6, 9)},
		{yard(3, move(0, 2, 4, 6), move(0, 1, 3, 3), move(1, 2, 0, 4)), at(0, 0), times(0, 3, 3)},
		// round by a ring, and back too late
		{yard(3, move(0, 1, 1, 5), move(1, 2, 2, 3), move(2, 0, 0, 9), move(0, 1, 0, 0)), at(0, 1), times(1, 1, 2)},
		// taint does not come out of nothing
		{yard(3, move(1, 2, 5, 5), move(2, 1, 5, 5)), at(0, 0), times(0, never, never)},
	} {
		wantList(t, arrivals(t, x.y, x.s), x.l, i)
	}
}

// P5.3: the earliest arrivals are right, and no number of them is less than in others that are right.
func TestArrivalsAgainstAllThatAreRight(t *testing.T) {
	var d die
	for range 300 {
		y := d.yard(int(d.roll(1, 3)), int(d.roll(0, 5)), 6, 3)
		s := at(d.index(y.Vessels), d.roll(0, 4))
		l := arrivals(t, y, s)
		want(t, right(y, s, l), true, y, s, l)
		for _, other := range numbers(y.Vessels, 6) {
			wanted := api.ErrSum
			if right(y, s, other) {
				wanted = api.OK
			}
			want(t, taint.CheckArrivals(y, s, other), wanted, y, s, other)
			for vessel, n := range other {
				want(t, wanted == api.OK && n > l[vessel], false, y, s, l, other)
			}
		}
	}
}

// P5.3
func TestCheckArrivals(t *testing.T) {
	for i, x := range []struct {
		l []int64
		e api.Errno
	}{
		{times(5, 10, 15, never, 11, 16), api.OK},
		{times(5, 10, 15, 100000, 11, 16), api.OK},
		{times(5, 10, 15, 0, 11, 16), api.OK},
		{times(4, 10, 15, never, 11, 16), api.OK},
		{times(5, 10, 15, never, 0, 16), api.OK},
		{times(0, 0, 0, 0, 0, 0), api.OK},
		// a number that is less asks for others that are less
		{times(5, 9, 15, never, 11, 16), api.ErrSum},
		{times(5, 9, 15, 9, 11, 16), api.OK},
		{times(5, 9, 15, 10, 11, 16), api.ErrSum},
		{times(5, 8, 15, 8, 11, 16), api.OK},
		{times(5, 10, 15, never, 11, 15), api.OK},
		// too late
		{times(6, 10, 15, never, 11, 16), api.ErrSum},
		{times(never, 10, 15, never, 11, 16), api.ErrSum},
		{times(5, 11, 15, never, 11, 16), api.ErrSum},
		{times(5, 10, 16, never, 11, 16), api.ErrSum},
		{times(5, 10, 15, never, 12, 16), api.ErrSum},
		{times(5, 10, 15, never, 11, 17), api.ErrSum},
		{times(5, 10, 15, never, 11, never), api.ErrSum},
		{times(5, never, never, never, never, never), api.ErrSum},
		// not as described
		{times(5, 10, 15, never+1, 11, 16), api.ErrRange},
		{times(5, 10, 15, never-1, 11, 16), api.ErrRange},
		{times(5, 10, 15, 100001, 11, 16), api.ErrRange},
		{times(9, 10, 15, never, 11, -1), api.ErrRange},
		{times(least, 10, 15, never, 11, 16), api.ErrRange},
		{times(5, 10, 15, most, 11, 16), api.ErrRange},
		{times(5, 10, 15, never, 11), api.ErrEqual},
		{times(-1, 10, 15, never, 11), api.ErrEqual},
		{times(5, 10, 15, never, 11, 16, never), api.ErrEqual},
		{make([]int64, 20), api.ErrEqual},
		{make([]int64, 5000), api.ErrEqual},
		{nil, api.ErrEqual},
	} {
		want(t, taint.CheckArrivals(chapter(), at(0, 5), x.l), x.e, i)
	}
}

// P5.3: in great yards the earliest arrivals are right; with one of them later they are not.
func TestCheckArrivalsOfGreatYards(t *testing.T) {
	var d die
	for range 300 {
		y, s := d.great()
		l := arrivals(t, y, s)
		want(t, taint.CheckArrivals(y, s, l), api.OK, y, s, l)
		for vessel, n := range l {
			if n == never {
				continue
			}
			for _, later := range times(n+1, d.roll(n, api.MaxTaintTime), never) {
				other := slices.Clone(l)
				other[vessel] = later
				wanted := api.OK
				switch {
				case later > api.MaxTaintTime && later < never:
					wanted = api.ErrRange
				case !right(y, s, other):
					wanted = api.ErrSum
				}
				want(t, taint.CheckArrivals(y, s, other), wanted, y, s, other)
				want(t, wanted == api.OK, later == n, y, s, other)
			}
		}
	}
}

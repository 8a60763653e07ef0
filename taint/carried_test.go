package taint_test

import (
	"slices"
	"testing"

	"forecourt/api"
	"forecourt/taint"
)

// P5.4
func TestCarried(t *testing.T) {
	for i, x := range []struct {
		y    api.TaintYard
		s    api.TaintStart
		list []int
	}{
		{chapter(), at(0, 0), of(0, 2, 3, 4)},
		{chapter(), at(0, 12), of(0, 2, 3, 4)},
		{chapter(), at(0, 13), nil},
		{chapter(), at(1, 9), of(1, 2, 3, 4)},
		{chapter(), at(1, 10), of(2, 3, 4)},
		{chapter(), at(1, 19), of(2)},
		{chapter(), at(2, 30), of(4)},
		{chapter(), at(2, 31), nil},
		{chapter(), at(3, 0), nil},
		{fork(), at(0, 0), of(0, 1, 2, 3, 4)},
		{fork(), at(2, 6), of(2)},
		{yard(1), at(0, 0), nil},
		// into the vessel of the start too
		{yard(2, move(1, 0, 5, 5), move(0, 1, 5, 5), move(1, 0, 4, 4)), at(0, 5), of(0, 1)},
	} {
		wantList(t, carried(t, x.y, x.s), x.list, i)
	}
}

// P5.4
func TestSure(t *testing.T) {
	for i, x := range []struct {
		y    api.TaintYard
		s    api.TaintStart
		list []int
	}{
		{chapter(), at(0, 0), of(0, 1, 2)},
		{chapter(), at(0, 10), of(0, 1, 2)},
		{chapter(), at(0, 11), of(0)},
		{chapter(), at(1, 8), of(1, 2, 3, 4)},
		{chapter(), at(1, 11), of(1, 2, 4)},
		{chapter(), at(1, 15), of(1, 2)},
		{chapter(), at(1, 16), of(1)},
		{chapter(), at(2, 16), of(2, 5)},
		{chapter(), at(2, 17), of(2)},
		{fork(), at(0, 0), of(0, 1, 2, 3, 4)},
		{yard(1), at(0, 100000), of(0)},
		{yard(3, move(0, 1, 5, 5), move(1, 2, 5, 5)), at(0, 5), of(0, 1, 2)},
		{yard(3, move(0, 1, 5, 6), move(1, 2, 6, 6)), at(0, 5), of(0, 1, 2)},
		{yard(3, move(0, 1, 5, 6), move(1, 2, 5, 6)), at(0, 5), of(0, 1)},
		// the move that begins later has ended earlier
		{yard(3, move(0, 1, 2, 9), move(0, 1, 4, 6), move(1, 2, 6, 7)), at(0, 1), of(0, 1, 2)},
		// one of two moves comes in time by all times, but no sure trail does
		{yard(3, move(0, 1, 0, 4), move(1, 2, 3, 9), move(0, 1, 2, 4)), at(0, 0), of(0, 1)},
	} {
		wantList(t, sure(t, x.y, x.s), x.list, i)
	}
}

// P5.4: Carried against all times, and Sure against all sure trails, of small yards.
func TestCarriedAndSureAgainstTheDefinition(t *testing.T) {
	var d die
	moves, vessels := 0, 0
	for range 400 {
		y, s := d.small()
		found := map[int]bool{}
		for l := range timesOf(y) {
			_, by := spread(y, s, l)
			for _, name := range by {
				found[name] = true
			}
		}
		list := carried(t, y, s)
		for name := range y.Moves {
			want(t, slices.Contains(list, name), found[name], y, s, name)
		}
		want(t, slices.IsSorted(list) && len(list) == len(found), true, y, s, list)
		wantList(t, sure(t, y, s), ends(y, s, walks(y, s, y.Vessels, true)), y, s)
		moves, vessels = moves+len(list), vessels+len(sure(t, y, s))-1
	}
	if moves < 300 || vessels < 100 {
		t.Error(moves, vessels)
	}
}

// P5.4: with an error there is no list.
func TestCarriedAndSureWithErrors(t *testing.T) {
	for _, s := range []api.TaintStart{at(6, 0), at(0, -1)} {
		moves, e := taint.Carried(chapter(), s)
		want(t, e, api.ErrArg)
		want(t, len(moves), 0)
		vessels, e := taint.Sure(chapter(), s)
		want(t, e, api.ErrArg)
		want(t, len(vessels), 0)
	}
}

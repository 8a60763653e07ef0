package taint_test

import (
	"slices"
	"testing"

	"forecourt/api"
	"forecourt/taint"
)

// P5.6
func TestCauses(t *testing.T) {
	ring := yard(3, move(0, 1, 4, 6), move(1, 2, 1, 5), move(2, 0, 3, 8))
	for i, x := range []struct {
		y      api.TaintYard
		spoilt []int
		list   []api.TaintStart
	}{
		{chapter(), of(0), []api.TaintStart{at(0, 12)}},
		{chapter(), of(2), []api.TaintStart{at(0, 12), at(1, 20)}},
		{chapter(), of(4), []api.TaintStart{at(0, 12), at(1, 18), at(2, 30)}},
		{chapter(), of(0, 1), nil},
		{chapter(), of(1, 4), []api.TaintStart{at(1, 9)}},
		{chapter(), of(0, 2, 3, 4), []api.TaintStart{at(0, 12)}},
		{chapter(), of(0, 1, 2, 3, 4), nil},
		{fork(), of(2, 4), []api.TaintStart{at(0, 2), at(1, 4)}},
		{ring, of(1), []api.TaintStart{at(0, 5), at(1, 5), at(2, 5)}},
		{ring, of(0, 1, 2), []api.TaintStart{at(0, 5), at(1, 5), at(2, 5)}},
		// the ends of times
		{yard(2, move(0, 1, 0, 100000)), of(0), []api.TaintStart{at(0, 100000)}},
		{yard(2, move(0, 1, 0, 0)), of(0), []api.TaintStart{at(0, 0)}},
		{yard(3, move(0, 1, 100000, 100000), move(1, 2, 99999, 100000)), of(1), []api.TaintStart{at(0, 100000), at(1, 100000)}},
		{yard(3, move(0, 1, 1, 2), move(1, 2, 0, 0)), of(1), []api.TaintStart{at(1, 0)}},
	} {
		list, e := taint.Causes(x.y, x.spoilt)
		want(t, e, api.OK, i)
		wantList(t, list, x.list, i)
	}
}

// P5.6
func TestCausesWithErrors(t *testing.T) {
	for i, x := range []struct {
		spoilt []int
		e      api.Errno
	}{
		{nil, api.ErrMany},
		{of(), api.ErrMany},
		{make([]int, 41), api.ErrMany},
		{slices.Repeat(of(-1), 41), api.ErrMany},
		{make([]int, 5000), api.ErrMany},
		{make([]int, 40), api.ErrRange},
		{of(5), api.ErrRange},
		{of(-1), api.ErrRange},
		{of(-1, 2), api.ErrRange},
		{of(0, 5), api.ErrRange},
		{of(least, most), api.ErrRange},
		{of(2, 2), api.ErrRange},
		{of(2, 1), api.ErrRange},
		{of(0, 2, 3, 1), api.ErrRange},
	} {
		list, e := taint.Causes(chapter(), x.spoilt)
		want(t, e, x.e, i)
		want(t, len(list), 0, i)
	}
	_, e := taint.Causes(yard(1), of(0))
	want(t, e, api.ErrRange)
}

// P5.6: at the limits all 40 moves can be spoilt.
func TestCausesOfAllMoves(t *testing.T) {
	y := yard(2, slices.Repeat([]api.TaintMove{move(0, 1, 3, 8)}, 40)...)
	y.Moves[7].Time.Hi = 6
	var all []int
	for name := range 40 {
		all = append(all, name)
	}
	list, e := taint.Causes(y, all)
	want(t, e, api.OK)
	wantList(t, list, []api.TaintStart{at(0, 6)})
}

// P5.6: Causes against all trails from all starts of small yards.
func TestCausesAgainstAllTrails(t *testing.T) {
	var d die
	found := 0
	for range 300 {
		y, _ := d.small()
		if len(y.Moves) == 0 {
			continue
		}
		spoilt := d.moves(y, int(d.roll(1, 3)))
		var wanted []api.TaintStart
		for vessel := range y.Vessels {
			last := int64(-1)
			for spoils(y, at(vessel, last+1), spoilt) {
				last++
			}
			if last >= 0 {
				wanted = append(wanted, at(vessel, last))
			}
		}
		list, e := taint.Causes(y, spoilt)
		want(t, e, api.OK, y, spoilt)
		wantList(t, list, wanted, y, spoilt)
		found += len(list)
	}
	if found < 100 {
		t.Error(found)
	}
}

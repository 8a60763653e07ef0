package taint_test

import (
	"slices"
	"testing"

	"forecourt/api"
	"forecourt/taint"
)

// P5.2
func TestCheckTrail(t *testing.T) {
	for i, x := range []struct {
		s      api.TaintStart
		vessel int
		trail  []int
		e      api.Errno // of a trail
		sure   api.Errno // of a sure trail
	}{
		{at(0, 5), 1, of(0), api.OK, api.OK},
		{at(0, 5), 2, of(0, 3), api.OK, api.OK},
		{at(0, 5), 5, of(0, 3, 4), api.OK, api.ErrRule},
		{at(0, 5), 4, of(0, 2), api.OK, api.ErrRule},
		// too early for the move out of the vessel, whatever the times are
		{at(0, 5), 3, of(0, 1), api.ErrRule, api.ErrRule},
		// the start at the ends of a move
		{at(0, 10), 1, of(0), api.OK, api.OK},
		{at(0, 11), 1, of(0), api.OK, api.ErrRule},
		{at(0, 12), 1, of(0), api.OK, api.ErrRule},
		{at(0, 13), 1, of(0), api.ErrRule, api.ErrRule},
		{at(1, 9), 3, of(1), api.OK, api.ErrRule},
		{at(1, 8), 3, of(1), api.OK, api.OK},
		// no moves
		{at(0, 5), 0, nil, api.OK, api.OK},
		{at(5, 100000), 5, nil, api.OK, api.OK},
		{at(0, 5), 1, nil, api.ErrRule, api.ErrRule},
		// not from the start, not to the vessel, not one after another
		{at(0, 5), 2, of(3), api.ErrRule, api.ErrRule},
		{at(0, 5), 1, of(0, 3), api.ErrRule, api.ErrRule},
		{at(0, 5), 0, of(0), api.ErrRule, api.ErrRule},
		{at(0, 5), 5, of(0, 4), api.ErrRule, api.ErrRule},
		{at(0, 5), 1, of(0, 0), api.ErrRule, api.ErrRule},
		{at(0, 5), 5, of(4, 3, 0), api.ErrRule, api.ErrRule},
		// what is not a move
		{at(0, 5), 5, of(0, 5), api.ErrArg, api.ErrArg},
		{at(0, 5), 5, of(-1), api.ErrArg, api.ErrArg},
		{at(0, 5), 5, of(3, most), api.ErrArg, api.ErrArg},
		{at(0, 5), 5, of(3, 4, least), api.ErrArg, api.ErrArg},
		{at(0, 5), 5, slices.Repeat(of(-1), 40), api.ErrArg, api.ErrArg},
		{at(0, 5), 5, slices.Repeat(of(-1), 41), api.ErrMany, api.ErrMany},
		{at(0, 5), 1, make([]int, 41), api.ErrMany, api.ErrMany},
		{at(0, 5), 1, make([]int, 5000), api.ErrMany, api.ErrMany},
	} {
		want(t, taint.CheckTrail(chapter(), x.s, x.vessel, x.trail, false), x.e, i)
		want(t, taint.CheckTrail(chapter(), x.s, x.vessel, x.trail, true), x.sure, i)
	}
}

// P5.2: the greatest Lo up to a move counts, not just the one before it.
func TestCheckTrailLooksAtAllMovesBefore(t *testing.T) {
	y := yard(4, move(0, 1, 7, 20), move(1, 2, 3, 20), move(2, 3, 0, 6), move(2, 3, 0, 7))
	want(t, taint.CheckTrail(y, at(0, 0), 3, of(0, 1, 2), false), api.ErrRule)
	want(t, taint.CheckTrail(y, at(0, 0), 3, of(0, 1, 3), false), api.OK)
	want(t, taint.CheckTrail(y, at(1, 6), 3, of(1, 2), false), api.OK)
	want(t, taint.CheckTrail(y, at(1, 7), 3, of(1, 2), false), api.ErrRule)
}

// P5.2: moves at one time can follow each other, and a trail may come to a vessel, and have a move, more than once.
func TestCheckTrailRound(t *testing.T) {
	y := yard(2, move(0, 1, 5, 5), move(1, 0, 5, 5))
	round := slices.Repeat(of(0, 1), 20)
	for _, sure := range []bool{false, true} {
		want(t, taint.CheckTrail(y, at(0, 5), 0, round, sure), api.OK)
		want(t, taint.CheckTrail(y, at(0, 5), 1, round[:39], sure), api.OK)
		want(t, taint.CheckTrail(y, at(0, 5), 1, round, sure), api.ErrRule)
		want(t, taint.CheckTrail(y, at(0, 6), 0, round, sure), api.ErrRule)
		want(t, taint.CheckTrail(y, at(0, 5), 0, append(round, 0), sure), api.ErrMany)
	}
	y.Moves[1].Time = api.Range{Lo: 4, Hi: 6}
	want(t, taint.CheckTrail(y, at(0, 5), 0, round, false), api.OK)
	want(t, taint.CheckTrail(y, at(0, 5), 0, of(0, 1), true), api.ErrRule)
}

// P5.2: CheckTrail against the definition, with lists that are nearly trails.
func TestCheckTrailAgainstTheDefinition(t *testing.T) {
	var d die
	counts := map[api.Errno]int{}
	for range 2000 {
		y, s := d.small()
		all := append(walks(y, s, 4, false), walks(y, s, 4, true)...)
		trail := all[d.index(len(all))]
		if len(trail) > 0 && d.roll(0, 3) == 0 {
			trail[d.index(len(trail))] = d.index(len(y.Moves))
		}
		vessel := end(y, s, trail)
		if d.roll(0, 5) == 0 {
			vessel = d.index(y.Vessels)
		}
		for _, sure := range []bool{false, true} {
			wanted := api.OK
			if !isTrail(y, s, vessel, trail, sure) {
				wanted = api.ErrRule
			}
			want(t, taint.CheckTrail(y, s, vessel, trail, sure), wanted, y, s, vessel, trail, sure)
			counts[wanted]++
		}
	}
	if counts[api.OK] < 500 || counts[api.ErrRule] < 500 {
		t.Error(counts)
	}
}

// P5.2: a sure trail is a trail.
func TestSureTrailIsATrail(t *testing.T) {
	var d die
	for range 300 {
		y, s := d.small()
		for _, walk := range walks(y, s, 4, true) {
			want(t, taint.CheckTrail(y, s, end(y, s, walk), walk, true), api.OK, y, s, walk)
			want(t, taint.CheckTrail(y, s, end(y, s, walk), walk, false), api.OK, y, s, walk)
		}
	}
}

// checkTrail fails the test if Trail does not return a trail to a vessel, or an error if there is none.
func checkTrail(t *testing.T, y api.TaintYard, s api.TaintStart, vessel int, found bool) {
	t.Helper()
	trail, e := taint.Trail(y, s, vessel)
	if !found {
		want(t, e, api.ErrNone, y, s, vessel)
		want(t, len(trail), 0, y, s, vessel)
		return
	}
	want(t, e, api.OK, y, s, vessel)
	want(t, isTrail(y, s, vessel, trail, false), true, y, s, vessel, trail)
	want(t, len(trail) < y.Vessels, true, y, s, vessel, trail)
}

// P5.2: Trail against all trails of small yards.
func TestTrailAgainstAllTrails(t *testing.T) {
	var d die
	counts := map[bool]int{}
	for range 1000 {
		y, s := d.small()
		led := ends(y, s, walks(y, s, y.Vessels, false))
		for vessel := range y.Vessels {
			found := slices.Contains(led, vessel)
			checkTrail(t, y, s, vessel, found)
			counts[found]++
		}
	}
	if counts[true] < 500 || counts[false] < 500 {
		t.Error(counts)
	}
}

// P5.2: in great yards a trail is returned just if there is an arrival.
func TestTrailOfGreatYards(t *testing.T) {
	var d die
	for range 300 {
		y, s := d.great()
		for vessel, n := range arrivals(t, y, s) {
			checkTrail(t, y, s, vessel, n < never)
		}
	}
}

// P5.2: the longest trail, and the shortest one.
func TestLengthOfTrails(t *testing.T) {
	y := yard(20)
	var all []int
	for vessel := range 19 {
		y.Moves = append(y.Moves, move(vessel, vessel+1, 7, 7), move(vessel+1, vessel, 0, 9))
		all = append(all, 2*vessel)
	}
	trail, e := taint.Trail(y, at(0, 7), 19)
	want(t, e, api.OK)
	wantList(t, trail, all)
	checkTrail(t, y, at(0, 7), 0, true)
	trail, e = taint.Trail(yard(1), at(0, 100000), 0)
	want(t, e, api.OK)
	want(t, len(trail), 0)
}

// P5.2: a way with more moves may be the only one that comes in time.
func TestTrailTakesALongerWay(t *testing.T) {
	y := yard(4, move(0, 2, 8, 9), move(2, 3, 5, 6), move(0, 1, 2, 3), move(1, 2, 4, 7))
	trail, e := taint.Trail(y, at(0, 0), 3)
	want(t, e, api.OK)
	wantList(t, trail, of(2, 3, 1))
}

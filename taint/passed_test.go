package taint_test

import (
	"slices"
	"testing"

	"forecourt/api"
	"forecourt/taint"
)

// P5.5
func TestPassed(t *testing.T) {
	two := yard(3, move(0, 1, 5, 9), move(1, 2, 1, 7), move(0, 2, 2, 3))
	ring := yard(4, move(0, 1, 1, 9), move(1, 0, 1, 9), move(1, 2, 1, 9), move(0, 3, 1, 9), move(3, 2, 1, 9))
	for i, x := range []struct {
		y      api.TaintYard
		s      api.TaintStart
		vessel int
		list   []int
		e      api.Errno
	}{
		{chapter(), at(0, 5), 4, of(0, 1, 4), api.OK},
		{chapter(), at(0, 5), 0, of(0), api.OK},
		{chapter(), at(1, 5), 5, of(1, 2, 5), api.OK},
		{chapter(), at(5, 5), 5, of(5), api.OK},
		{chapter(), at(0, 5), 3, nil, api.ErrNone},
		{chapter(), at(0, 13), 1, nil, api.ErrNone},
		{chapter(), at(1, 0), 0, nil, api.ErrNone},
		{fork(), at(0, 0), 3, of(0, 1, 3), api.OK},
		{fork(), at(0, 0), 4, of(0, 1, 4), api.OK},
		{fork(), at(2, 0), 3, of(2, 3), api.OK},
		{fork(), at(3, 0), 0, nil, api.ErrNone},
		// a way that is too early is none
		{two, at(0, 3), 2, of(0, 2), api.OK},
		{two, at(0, 4), 2, of(0, 1, 2), api.OK},
		// trails come back to the start, and lead on from there
		{ring, at(0, 0), 2, of(0, 2), api.OK},
		{ring, at(1, 0), 2, of(1, 2), api.OK},
		{ring, at(1, 0), 3, of(0, 1, 3), api.OK},
		{ring, at(0, 0), 0, of(0), api.OK},
		{yard(1), at(0, 9), 0, of(0), api.OK},
	} {
		list, e := taint.Passed(x.y, x.s, x.vessel)
		want(t, e, x.e, i)
		wantList(t, list, x.list, i)
	}
}

// passedBy reports whether a walk passes a vessel, by the definition.
func passedBy(y api.TaintYard, s api.TaintStart, walk []int, vessel int) bool {
	return vessel == s.Vessel || slices.ContainsFunc(walk, func(name int) bool { return y.Moves[name].To == vessel })
}

// P5.5: Passed against all trails of small yards.
func TestPassedAgainstAllTrails(t *testing.T) {
	var d die
	longer := 0
	for range 1500 {
		y, s := d.small()
		all := walks(y, s, 5, false)
		for vessel := range y.Vessels {
			list, e := taint.Passed(y, s, vessel)
			trails := slices.DeleteFunc(slices.Clone(all), func(walk []int) bool { return end(y, s, walk) != vessel })
			if len(trails) == 0 {
				want(t, e, api.ErrNone, y, s, vessel)
				want(t, len(list), 0, y, s, vessel)
				continue
			}
			var wanted []int
			for v := range y.Vessels {
				if !slices.ContainsFunc(trails, func(walk []int) bool { return !passedBy(y, s, walk, v) }) {
					wanted = append(wanted, v)
				}
			}
			want(t, e, api.OK, y, s, vessel)
			wantList(t, list, wanted, y, s, vessel)
			if len(list) > 2 {
				longer++
			}
		}
	}
	if longer < 50 {
		t.Error(longer)
	}
}

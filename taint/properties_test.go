package taint_test

import (
	"slices"
	"testing"

	"forecourt/api"
	"forecourt/taint"
)

// P5.7: taint comes by no times earlier than right arrivals say, also if these are not the earliest ones.
func TestNoTimesAreEarlierThanRightArrivals(t *testing.T) {
	var d die
	for range 200 {
		y, s := d.small()
		earliest := arrivals(t, y, s)
		l := slices.Clone(earliest)
		for range 3 {
			other := slices.Clone(l)
			other[d.index(len(l))] = d.roll(0, 6)
			if taint.CheckArrivals(y, s, other) == api.OK {
				l = other
			}
		}
		for when := range timesOf(y) {
			in, _ := spread(y, s, when)
			for vessel, from := range in {
				want(t, from >= l[vessel] && from >= earliest[vessel], true, y, s, l, when)
			}
		}
	}
	for range 300 {
		y, s := d.great()
		l := arrivals(t, y, s)
		for range 20 {
			when := d.timesOf(y)
			in, _ := spread(y, s, when)
			for vessel, from := range in {
				want(t, from >= l[vessel], true, y, s, l, when)
			}
		}
	}
}

// P5.7: by some times taint comes at the earliest arrivals.
func TestEarliestArrivalsAreReached(t *testing.T) {
	var d die
	for range 1000 {
		y, s := d.great()
		l := arrivals(t, y, s)
		var when []int64
		for _, m := range y.Moves {
			when = append(when, max(m.Time.Lo, min(m.Time.Hi, l[m.From])))
		}
		in, by := spread(y, s, when)
		wantList(t, in, l, y, s)
		wantList(t, carried(t, y, s), by, y, s)
	}
}

// P5.7: a move carries taint just if its Hi is at least the arrival of its From, and just if a trail to it goes on by it.
func TestCarriedIsProved(t *testing.T) {
	var d die
	for range 500 {
		y, s := d.great()
		l, list := arrivals(t, y, s), carried(t, y, s)
		for name, m := range y.Moves {
			found := slices.Contains(list, name)
			want(t, m.Time.Hi >= l[m.From], found, y, s, name)
			trail, e := taint.Trail(y, s, m.From)
			if found {
				want(t, e, api.OK, y, s, name)
				want(t, taint.CheckTrail(y, s, m.To, append(trail, name), false), api.OK, y, s, name)
			} else if e == api.OK {
				want(t, taint.CheckTrail(y, s, m.To, append(trail, name), false), api.ErrRule, y, s, name)
			}
		}
	}
}

// P5.8: by all times taint is in each vessel of Sure, which has a trail and an arrival.
func TestSureByAllTimes(t *testing.T) {
	var d die
	check := func(y api.TaintYard, s api.TaintStart, when []int64, list []int) {
		in, _ := spread(y, s, when)
		for _, vessel := range list {
			want(t, in[vessel] < never, true, y, s, when, vessel)
		}
	}
	for range 300 {
		y, s := d.small()
		list := sure(t, y, s)
		for when := range timesOf(y) {
			check(y, s, when, list)
		}
	}
	others := 0
	for range 500 {
		y, s := d.great()
		list := sure(t, y, s)
		want(t, slices.Contains(list, s.Vessel), true, y, s)
		others += len(list) - 1
		for range 20 {
			check(y, s, d.timesOf(y), list)
		}
		l := arrivals(t, y, s)
		for _, vessel := range list {
			checkTrail(t, y, s, vessel, true)
			want(t, l[vessel] < never, true, y, s, vessel)
		}
	}
	if others < 500 {
		t.Error(others)
	}
}

// P5.9: without the moves into a vessel that is passed there is no trail; without those into another one there is.
func TestNoTrailWithoutAPassedVessel(t *testing.T) {
	var d die
	counts := map[bool]int{}
	for range 300 {
		y, s := d.great()
		for vessel, n := range arrivals(t, y, s) {
			list, e := taint.Passed(y, s, vessel)
			want(t, e == api.OK, n < never, y, s, vessel)
			if e != api.OK {
				want(t, e, api.ErrNone, y, s, vessel)
				continue
			}
			want(t, slices.Contains(list, vessel) && slices.Contains(list, s.Vessel), true, y, s, vessel)
			want(t, slices.IsSorted(list), true, list)
			for v := range y.Vessels {
				if v == s.Vessel {
					continue
				}
				passed := slices.Contains(list, v)
				checkTrail(t, without(y, func(m api.TaintMove) bool { return m.To == v }), s, vessel, !passed)
				counts[passed]++
			}
		}
	}
	if counts[true] < 1000 || counts[false] < 1000 {
		t.Error(counts)
	}
}

// carriesAll reports whether each spoilt move is carried by some times.
func carriesAll(t *testing.T, y api.TaintYard, s api.TaintStart, spoilt []int) bool {
	t.Helper()
	list := carried(t, y, s)
	return !slices.ContainsFunc(spoilt, func(name int) bool { return !slices.Contains(list, name) })
}

// P5.10: from each start of Causes all spoilt moves are carried, from a later one, or from another vessel, they are not.
func TestCausesAreJustThoseStarts(t *testing.T) {
	var d die
	counts := map[bool]int{}
	for range 300 {
		y, _ := d.great()
		spoilt := d.moves(y, int(d.roll(1, 4)))
		list, e := taint.Causes(y, spoilt)
		want(t, e, api.OK, y, spoilt)
		for vessel := range y.Vessels {
			i := slices.IndexFunc(list, func(s api.TaintStart) bool { return s.Vessel == vessel })
			counts[i >= 0]++
			if i < 0 {
				want(t, carriesAll(t, y, at(vessel, 0), spoilt), false, y, spoilt, vessel)
				continue
			}
			s := list[i]
			want(t, carriesAll(t, y, s, spoilt), true, y, spoilt, s)
			want(t, carriesAll(t, y, at(vessel, d.roll(0, s.Time)), spoilt), true, y, spoilt, s)
			if s.Time < api.MaxTaintTime {
				want(t, carriesAll(t, y, at(vessel, s.Time+1), spoilt), false, y, spoilt, s)
				want(t, carriesAll(t, y, at(vessel, d.roll(s.Time+1, api.MaxTaintTime)), spoilt), false, y, spoilt, s)
			}
		}
	}
	if counts[true] < 200 || counts[false] < 200 {
		t.Error(counts)
	}
}

// notMore fails the test if with another yard and start an arrival is earlier, or a move is carried that was not.
func notMore(t *testing.T, y, other api.TaintYard, s, later api.TaintStart, name func(int) int) {
	t.Helper()
	before := arrivals(t, y, s)
	for vessel, n := range arrivals(t, other, later) {
		want(t, n >= before[vessel], true, y, other, s, later, vessel)
	}
	list := carried(t, y, s)
	for _, i := range carried(t, other, later) {
		want(t, slices.Contains(list, name(i)), true, y, other, s, later, i)
	}
}

// P5.11: with a later start, a narrower Time of a move, or one move fewer, nothing comes earlier.
func TestLater(t *testing.T) {
	var d die
	same := func(i int) int { return i }
	surer := 0
	for range 500 {
		y, s := d.great()
		notMore(t, y, y, s, at(s.Vessel, d.roll(s.Time, api.MaxTaintTime)), same)
		i := d.index(len(y.Moves))
		notMore(t, y, changed(y, func(y *api.TaintYard) { y.Moves = slices.Delete(y.Moves, i, i+1) }), s, s, func(k int) int {
			if k < i {
				return k
			}
			return k + 1
		})
		narrower := changed(y, func(y *api.TaintYard) {
			span := &y.Moves[i].Time
			span.Lo = d.roll(span.Lo, span.Hi)
			span.Hi = d.roll(span.Lo, span.Hi)
		})
		notMore(t, y, narrower, s, s, same)
		before, after := sure(t, y, s), sure(t, narrower, s)
		for _, vessel := range before {
			want(t, slices.Contains(after, vessel), true, y, narrower, s, vessel)
		}
		surer += len(after) - len(before)
	}
	if surer < 10 {
		t.Error(surer)
	}
}

// P5.12: if all Times are as much greater, arrivals are, too, and all else stays.
func TestTurned(t *testing.T) {
	var d die
	for range 300 {
		y := d.yard(int(d.roll(2, 20)), 40, api.MaxTaintTime/2, d.roll(1, api.MaxTaintTime/2))
		s := at(y.Moves[0].From, d.roll(0, api.MaxTaintTime/2))
		by := d.roll(1, api.MaxTaintTime/2)
		later := changed(y, func(y *api.TaintYard) {
			for i, m := range y.Moves {
				y.Moves[i].Time = api.Range{Lo: m.Time.Lo + by, Hi: m.Time.Hi + by}
			}
		})
		start := at(s.Vessel, s.Time+by)
		wanted := arrivals(t, y, s)
		for vessel, n := range wanted {
			if n < never {
				wanted[vessel] += by
			}
		}
		wantList(t, arrivals(t, later, start), wanted, y, s, by)
		wantList(t, carried(t, later, start), carried(t, y, s), y, s, by)
		wantList(t, sure(t, later, start), sure(t, y, s), y, s, by)
		for vessel := range y.Vessels {
			one, e := taint.Passed(y, s, vessel)
			two, f := taint.Passed(later, start, vessel)
			want(t, e, f, y, s, by, vessel)
			wantList(t, one, two, y, s, by, vessel)
		}
	}
}

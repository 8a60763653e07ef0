package hose_test

import (
	"slices"
	"testing"

	"forecourt/api"
	"forecourt/hose"
)

// checkLevels checks that the ends of the levels of a tank are as wanted, and that states and pairs agree with them.
func checkLevels(t *testing.T, j api.HoseJob, tank int, high, low int64) {
	t.Helper()
	n, state, e := hose.Highest(j, tank)
	want(t, e, api.OK, j, tank)
	want(t, n, high, j, tank)
	want(t, slices.IsSorted(state) && isState(j, state), true, j, tank, state)
	want(t, level(j, tank, state), high, j, tank, state)
	n, state, e = hose.Lowest(j, tank)
	want(t, e, api.OK, j, tank)
	want(t, n, low, j, tank)
	want(t, slices.IsSorted(state) && isState(j, state), true, j, tank, state)
	want(t, level(j, tank, state), low, j, tank, state)
	l, e := hose.Pairs(j, tank)
	want(t, e, api.OK, j, tank)
	want(t, bound(j, tank, l), number{high, api.OK}, j, tank, l)
}

// P4.5, P4.6
func TestLevels(t *testing.T) {
	other := chapter()
	other.Start, other.Caps = litres(20, 5), litres(70, 9)
	other.Steps[0].Tank = 1
	// The pair of steps of tank 0 is known by a step of tank 1 only.
	through := changes(50, 100, pairs(0, 1, 1, 2), -30, 7, 20)
	through.Start, through.Caps, through.Steps[1].Tank = litres(50, 0), litres(100, 9), 1
	for _, x := range []struct {
		j         api.HoseJob
		tank      int
		high, low int64
	}{
		{chapter(), 0, 75, -25},
		{other, 0, 90, -10},
		{other, 1, 5, -10},
		{through, 0, 50, 20},
		{through, 1, 7, 0},
		{changes(7, 9, nil), 0, 7, 7},
		{changes(7, 9, nil, 0, 0), 0, 7, 7},
		{changes(7, 9, nil, 3, 4, -5), 0, 14, 2},
		{changes(0, 9, nil, -3), 0, 0, -3},
		{changes(9, 9, nil, 3), 0, 12, 9},
		// two puts share what one sale makes room for
		{changes(50, 100, pairs(0, 1, 0, 2), -30, 20, 25), 0, 65, 20},
		{changes(50, 100, pairs(0, 1, 0, 2, 3, 2), -30, 20, 25, -40), 0, 50, -20},
		// the second sale can be paired with the second put alone, the first one with both
		{changes(50, 100, pairs(0, 2, 0, 3, 1, 3), -10, -10, 10, 10), 0, 50, 30},
		{changes(50, 100, pairs(0, 2, 0, 3, 1, 2), -10, -10, 10, 10), 0, 50, 30},
		{changes(0, 100, pairs(0, 1, 1, 2, 2, 3), 30, -20, 30, -50), 0, 40, -10},
		{changes(0, 100, pairs(1, 0, 2, 0, 2, 3), 60, -20, -15, 20), 0, 45, -35},
		{changes(100000, 100000, nil, slices.Repeat(litres(100000), 12)...), 0, 1300000, 100000},
		{changes(0, 100000, nil, slices.Repeat(litres(-100000), 12)...), 0, 0, -1200000},
		// a chain that sets free two pairs
		{changes(0, 100, pairs(0, 3, 0, 4, 1, 4, 1, 5, 2, 3), -5, -5, -5, 5, 5, 5), 0, 0, -15},
		// two chains with the same beginning, of which the first one leads on
		{changes(50, 100, pairs(0, 4, 0, 5, 0, 6, 1, 5, 1, 7, 2, 6, 3, 4), -5, -5, -5, -5, 5, 5, 5, 5), 0, 50, 30},
	} {
		checkLevels(t, x.j, x.tank, x.high, x.low)
	}
}

// checkTankError checks that all functions with a tank, but CheckPairs, return an error and nothing else.
func checkTankError(t *testing.T, j api.HoseJob, tank int, wanted api.Errno) {
	t.Helper()
	n, state, e := hose.Highest(j, tank)
	want(t, e, wanted, j, tank)
	want(t, n, 0, j, tank)
	want(t, len(state), 0, j, tank)
	n, state, e = hose.Lowest(j, tank)
	want(t, e, wanted, j, tank)
	want(t, n, 0, j, tank)
	want(t, len(state), 0, j, tank)
	l, e := hose.Pairs(j, tank)
	want(t, e, wanted, j, tank)
	want(t, len(l), 0, j, tank)
}

// P4.5, P4.6: a tank that is none.
func TestNoTank(t *testing.T) {
	for _, tank := range []int{-1, 1, 4, least, most} {
		checkTankError(t, chapter(), tank, api.ErrArg)
		want(t, bound(chapter(), tank, nil), number{e: api.ErrArg}, tank)
		want(t, bound(chapter(), tank, make([]api.HosePair, 101)), number{e: api.ErrArg}, tank)
	}
}

// P4.6
func TestCheckPairs(t *testing.T) {
	elsewhere := chapter()
	elsewhere.Start, elsewhere.Caps, elsewhere.Steps[0].Tank = litres(20, 5), litres(70, 9), 1
	for i, x := range []struct {
		j    api.HoseJob
		tank int
		l    []api.HosePair
		want number
	}{
		{chapter(), 0, proof(0, 1, 15), number{75, api.OK}},
		{chapter(), 0, proof(0, 1, 9, 0, 1, 6), number{75, api.OK}},
		{chapter(), 0, proof(0, 1, 1), number{89, api.OK}},
		{chapter(), 0, nil, number{90, api.OK}},
		{chapter(), 0, proof(slices.Repeat(litres(0, 1, 1), 15)...), number{75, api.OK}},
		{elsewhere, 1, nil, number{5, api.OK}},
		{chapter(), 0, proof(0, 1, 16), number{0, api.ErrSum}},
		{chapter(), 0, proof(0, 1, 9, 0, 1, 7), number{0, api.ErrSum}},
		{chapter(), 0, proof(0, 1, most, 0, 1, most), number{0, api.ErrSum}},
		{chapter(), 0, proof(slices.Repeat(litres(0, 1, 1<<60), 100)...), number{0, api.ErrSum}},
		{chapter(), 0, proof(2, 1, 15), number{0, api.ErrSum}},
		{chapter(), 0, proof(1, 0, 15), number{0, api.ErrSum}},
		{chapter(), 0, proof(0, 0, 1), number{0, api.ErrSum}},
		{chapter(), 0, proof(1, 1, 1), number{0, api.ErrSum}},
		{chapter(), 0, proof(0, 2, 1), number{0, api.ErrSum}},
		{chapter(), 0, proof(3, 1, 1), number{0, api.ErrSum}},
		{elsewhere, 0, proof(0, 1, 15), number{0, api.ErrSum}},
		{elsewhere, 1, proof(0, 1, 15), number{0, api.ErrSum}},
		{chapter(), 0, proof(0, 1, 0), number{0, api.ErrRange}},
		{chapter(), 0, proof(0, 1, -1), number{0, api.ErrRange}},
		{chapter(), 0, proof(0, 1, least), number{0, api.ErrRange}},
		{chapter(), 0, proof(0, 4, 1), number{0, api.ErrRange}},
		{chapter(), 0, proof(4, 1, 1), number{0, api.ErrRange}},
		{chapter(), 0, proof(-1, 1, 1), number{0, api.ErrRange}},
		{chapter(), 0, proof(most, least, 1), number{0, api.ErrRange}},
		// the error of a later pair that is named first
		{chapter(), 0, proof(2, 1, 15, 0, 1, 99, 0, 4, 1), number{0, api.ErrRange}},
		{chapter(), 0, make([]api.HosePair, 100), number{0, api.ErrRange}},
		{chapter(), 0, make([]api.HosePair, 101), number{0, api.ErrMany}},
		{chapter(), 0, make([]api.HosePair, 5000), number{0, api.ErrMany}},
		// all of what is put in is paired, with two that took it out
		{changes(50, 100, pairs(0, 2, 1, 2), -30, -20, 40), 0, proof(0, 2, 25, 1, 2, 15), number{50, api.OK}},
		{changes(50, 100, pairs(0, 2, 1, 2), -30, -20, 40), 0, proof(0, 2, 25, 1, 2, 16), number{0, api.ErrSum}},
		{changes(50, 100, pairs(0, 1, 0, 2), -30, 20, 40), 0, proof(0, 1, 15, 0, 2, 15), number{80, api.OK}},
		{changes(50, 100, pairs(0, 1, 0, 2), -30, 20, 40), 0, proof(0, 1, 15, 0, 2, 16), number{0, api.ErrSum}},
		{changes(50, 100, pairs(0, 1), -30, 0), 0, proof(0, 1, 1), number{0, api.ErrSum}},
		{changes(50, 100, pairs(0, 1), 0, 30), 0, proof(0, 1, 1), number{0, api.ErrSum}},
	} {
		want(t, bound(x.j, x.tank, x.l), x.want, i)
	}
	want(t, bound(changes(1, 9, nil), 0, proof(0, 0, 1)), number{e: api.ErrRange})
}

// boundOf returns what CheckPairs does of pairs whose numbers are in range, by the definition.
func boundOf(j api.HoseJob, all [][]int, tank int, l []api.HosePair) number {
	sums := make([]int64, len(j.Steps))
	n := j.Start[tank]
	for _, x := range l {
		gone, come := j.Steps[x.Gone], j.Steps[x.Come]
		if gone.Tank != tank || come.Tank != tank || gone.Change >= 0 || come.Change <= 0 || !must(all, x.Gone, x.Come) {
			return number{e: api.ErrSum}
		}
		sums[x.Gone] += x.Litres
		sums[x.Come] += x.Litres
		n -= x.Litres
	}
	for step, s := range j.Steps {
		if sums[step] > max(s.Change, -s.Change) {
			return number{e: api.ErrSum}
		}
		if s.Tank == tank {
			n += max(0, s.Change)
		}
	}
	return number{n: n}
}

// nearRight returns pairs that are right, or are but for a change.
func (d *die) nearRight(t *testing.T, j api.HoseJob, tank int) []api.HosePair {
	l, e := hose.Pairs(j, tank)
	want(t, e, api.OK, j, tank)
	for i := range l {
		l[i].Litres = d.roll(1, l[i].Litres)
	}
	if d.roll(0, 2) == 0 {
		l = append(l, api.HosePair{Gone: d.index(len(j.Steps)), Come: d.index(len(j.Steps)), Litres: d.roll(1, 4)})
	}
	if len(l) > 0 && d.roll(0, 1) == 0 {
		x := l[d.index(len(l))]
		x.Litres = d.roll(1, 6)
		l = append(l, x)
	}
	return l
}

// P4.6: random pairs against the definition.
func TestCheckPairsAgainstTheDefinition(t *testing.T) {
	var d die
	counts := map[api.Errno]int{}
	for range 1000 {
		j, _ := d.job(int(d.roll(1, 2)), int(d.roll(2, 6)), int(d.roll(4, 12)), 9)
		all := orders(j)
		for range 5 {
			tank := d.index(len(j.Caps))
			l := d.nearRight(t, j, tank)
			wanted := boundOf(j, all, tank, l)
			want(t, bound(j, tank, l), wanted, j, tank, l)
			if len(l) > 0 {
				counts[wanted.e]++
			}
		}
	}
	if counts[api.OK] < 300 || counts[api.ErrSum] < 300 {
		t.Error(counts)
	}
}

// P4.5, P4.6: all tanks of small jobs against all states.
func TestLevelsAgainstAllStates(t *testing.T) {
	var d die
	for range 2000 {
		j := d.small()
		all := states(j)
		for tank := range j.Caps {
			high, low := j.Start[tank], j.Start[tank]
			for _, state := range all {
				n := level(j, tank, state)
				high, low = max(high, n), min(low, n)
			}
			checkLevels(t, j, tank, high, low)
		}
	}
}

// P4.6: in jobs of the greatest size a state and pairs prove each other.
func TestPairsOfGreatJobs(t *testing.T) {
	var d die
	paired := 0
	for range 120 {
		j, _ := d.great()
		for tank := range j.Caps {
			high, low := highest(j, tank), lowest(j, tank)
			checkLevels(t, j, tank, high.n, low.n)
			l, e := hose.Pairs(j, tank)
			want(t, e, api.OK)
			paired += len(l)
		}
	}
	if paired < 100 {
		t.Error(paired)
	}
}

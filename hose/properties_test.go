package hose_test

import (
	"slices"
	"testing"

	"forecourt/api"
	"forecourt/hose"
)

// P4.9: in no state a tank has a greater level than the bound of right pairs, also if these are not the best ones.
func TestNoStateIsAboveABound(t *testing.T) {
	var d die
	right := 0
	for range 1000 {
		j := d.small()
		if len(j.Steps) == 0 {
			continue
		}
		tank := d.index(len(j.Caps))
		b := bound(j, tank, d.nearRight(t, j, tank))
		if b.e != api.OK {
			continue
		}
		right++
		for _, state := range states(j) {
			want(t, level(j, tank, state) <= b.n, true, j, tank, state, b)
		}
	}
	if right < 300 {
		t.Error(right)
	}
}

// P4.9: the greatest level is the bound of Pairs.
func TestGreatestLevelIsTheBoundOfPairs(t *testing.T) {
	var d die
	for range 100 {
		j, _ := d.great()
		for tank := range j.Caps {
			l, e := hose.Pairs(j, tank)
			want(t, e, api.OK, j, tank)
			want(t, bound(j, tank, l), highest(j, tank), j, tank, l)
		}
	}
}

// P4.10: the levels of orders are from the least to the greatest level of their tank.
func TestLevelsOfOrders(t *testing.T) {
	var d die
	for range 200 {
		j, order := d.great()
		var low, high []int64
		for tank := range j.Caps {
			low, high = append(low, lowest(j, tank).n), append(high, highest(j, tank).n)
		}
		levels, e := hose.Levels(j, order)
		want(t, e, api.OK, j, order)
		for i, n := range levels {
			tank := j.Steps[order[i]].Tank
			want(t, low[tank] <= n && n <= high[tank], true, j, order, i)
		}
	}
}

// P4.10: both ends are reached by an order in which the steps of their states come first.
func TestEndsAreReached(t *testing.T) {
	var d die
	for range 100 {
		j, _ := d.great()
		tank := d.index(len(j.Caps))
		for _, end := range []func(api.HoseJob, int) (int64, []int, api.Errno){hose.Highest, hose.Lowest} {
			n, state, e := end(j, tank)
			want(t, e, api.OK, j, tank)
			order, e := hose.Order(j, state)
			want(t, e, api.OK, j, state)
			want(t, hose.CheckOrder(j, order), api.OK, j, order)
			want(t, level(j, tank, order[:len(state)]), n, j, tank, order)
		}
	}
}

// P4.10: if no tank can overflow, or be empty too early, each order is a plan; otherwise some is not.
func TestEachOrderIsAPlan(t *testing.T) {
	var d die
	counts := map[bool]int{}
	for range 1500 {
		j := d.small()
		safe := true
		for tank, most := range j.Caps {
			safe = safe && lowest(j, tank).n >= 0 && highest(j, tank).n <= most
		}
		all := orders(j)
		want(t, !slices.ContainsFunc(all, func(order []int) bool { return !isPlan(j, order) }), safe, j)
		counts[safe]++
		if safe {
			plan, e := hose.Plan(j)
			want(t, e, api.OK, j)
			wantList(t, plan, all[0], j)
		}
	}
	if counts[true] < 100 || counts[false] < 100 {
		t.Error(counts)
	}
}

// P4.11: with one pair of Before more there is not more of anything.
func TestKnownMore(t *testing.T) {
	var d die
	fewer := 0
	for range 200 {
		j, order := d.job(int(d.roll(1, 4)), int(d.roll(2, 12)), int(d.roll(0, 20)), 100)
		one := d.index(len(order) - 1)
		two := one + 1 + d.index(len(order)-one-1)
		more := copied(j)
		more.Before = append(more.Before, [2]int{order[one], order[two]})
		before, after := count(j), count(more)
		want(t, after.e, api.OK, more)
		want(t, after.n <= before.n, true, j, more)
		if after.n < before.n {
			fewer++
		}
		for tank := range j.Caps {
			want(t, highest(more, tank).n <= highest(j, tank).n, true, j, more, tank)
			want(t, lowest(more, tank).n >= lowest(j, tank).n, true, j, more, tank)
		}
		for _, two := range twos(j) {
			if _, e := hose.Mix(j, two); e != api.OK {
				_, f := hose.Mix(more, two)
				want(t, f, api.ErrNone, j, more, two)
			}
		}
	}
	if fewer < 100 {
		t.Error(fewer)
	}
}

// turned returns the job that runs from the end to the beginning, and whether it is valid.
func turned(j api.HoseJob) (api.HoseJob, bool) {
	back := copied(j)
	for i, p := range j.Before {
		back.Before[i] = [2]int{p[1], p[0]}
	}
	for i := range back.Steps {
		back.Steps[i].Change *= -1
		back.Start[j.Steps[i].Tank] += j.Steps[i].Change
	}
	return back, hose.CheckJob(back) == api.OK
}

// P4.12: if all is turned round, greatest and least levels stay, and there are as many orders.
func TestTurned(t *testing.T) {
	var d die
	compared := 0
	for range 1500 {
		j, _ := d.job(int(d.roll(1, 2)), int(d.roll(0, 12)), int(d.roll(0, 30)), 50)
		back, valid := turned(j)
		if !valid {
			continue
		}
		compared++
		want(t, count(back), count(j), j)
		for tank := range j.Caps {
			want(t, highest(back, tank), highest(j, tank), j, tank)
			want(t, lowest(back, tank), lowest(j, tank), j, tank)
		}
	}
	if compared < 300 {
		t.Error(compared)
	}
}

// P4.12: if each Change alone has the other sign, the greatest level is as far above the Start as the least one was below it.
func TestOtherSigns(t *testing.T) {
	var d die
	for range 80 {
		j, _ := d.great()
		other := copied(j)
		for i := range other.Steps {
			other.Steps[i].Change *= -1
		}
		want(t, count(other), count(j), j)
		for tank, start := range j.Start {
			want(t, highest(other, tank).n-start, start-lowest(j, tank).n, j, tank)
			want(t, start-lowest(other, tank).n, highest(j, tank).n-start, j, tank)
		}
	}
}

// parted reports whether a step of their hose must come between two steps.
func parted(t *testing.T, j api.HoseJob, two [2]int) bool {
	for step, s := range j.Steps {
		after, e := hose.Must(j, two[0], step)
		want(t, e, api.OK, j)
		before, e := hose.Must(j, step, two[1])
		want(t, e, api.OK, j)
		if after && before && s.Hose == j.Steps[two[0]].Hose {
			return true
		}
	}
	return false
}

// P4.13: a step that must come before another one can meet it just if no step of their hose must come between them.
func TestMeeting(t *testing.T) {
	var d die
	counts := map[api.Errno]int{}
	for range 1000 {
		j, _ := d.job(1, 12, int(d.roll(5, 60)), 9)
		for _, two := range twos(j) {
			one, other := j.Steps[two[0]], j.Steps[two[1]]
			if one.Hose != other.Hose || one.Kind == other.Kind || one.Kind == 0 || other.Kind == 0 {
				continue
			}
			if first, e := hose.Must(j, two[0], two[1]); !first || e != api.OK {
				continue
			}
			_, e := hose.Mix(j, two)
			counts[e]++
			want(t, e == api.ErrNone, parted(t, j, two), j, two)
			checkMix(t, j, two, e == api.OK)
		}
	}
	if counts[api.OK] < 300 || counts[api.ErrNone] < 300 {
		t.Error(counts)
	}
}

// P4.8: in jobs of the greatest size Mixed returns the first two of which Mix finds an order.
func TestMixedIsTheFirstThatMixFinds(t *testing.T) {
	var d die
	counts := map[api.Errno]int{}
	for range 300 {
		j, _ := d.great()
		wanted, e := [2]int{}, api.ErrNone
		for _, two := range twos(j) {
			order, f := hose.Mix(j, two)
			if f == api.OK {
				want(t, isOrder(j, order) && meets(j, order, two), true, j, two, order)
			}
			if f == api.OK && e != api.OK {
				wanted, e = two, api.OK
			}
		}
		two, f := hose.Mixed(j)
		want(t, f, e, j)
		want(t, two, wanted, j)
		counts[e]++
	}
	if counts[api.OK] < 100 {
		t.Error(counts)
	}
}

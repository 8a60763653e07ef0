package hose_test

import (
	"slices"
	"testing"

	"forecourt/api"
	"forecourt/hose"
)

// changed returns the chapter's job with a change.
func changed(change func(j *api.HoseJob)) api.HoseJob {
	j := chapter()
	change(&j)
	return j
}

// invalid is a job that is not valid, with the error of CheckJob.
type invalid struct {
	j api.HoseJob
	e api.Errno
}

// noTanks returns jobs whose tanks, or numbers of parts, are not valid.
func noTanks() []invalid {
	return []invalid{
		{api.HoseJob{}, api.ErrMany},
		{changed(func(j *api.HoseJob) { j.Caps = nil }), api.ErrMany},
		{changed(func(j *api.HoseJob) { j.Start, j.Caps = litres(0, 0, 0, 0, 0), litres(1, 1, 1, 1, 1) }), api.ErrMany},
		{changed(func(j *api.HoseJob) { j.Caps = make([]int64, 5000) }), api.ErrMany},
		{changed(func(j *api.HoseJob) { j.Steps = make([]api.HoseStep, 13) }), api.ErrMany},
		{changed(func(j *api.HoseJob) { j.Steps = make([]api.HoseStep, 5000) }), api.ErrMany},
		{changed(func(j *api.HoseJob) { j.Before = slices.Repeat(j.Before, 61) }), api.ErrMany},
		{changed(func(j *api.HoseJob) { j.Start, j.Before = nil, slices.Repeat(j.Before, 61) }), api.ErrMany},
		{changed(func(j *api.HoseJob) { j.Start = nil }), api.ErrEqual},
		{changed(func(j *api.HoseJob) { j.Start = litres(1, 2) }), api.ErrEqual},
		{changed(func(j *api.HoseJob) { j.Caps = litres(70, -1) }), api.ErrEqual},
		{changed(func(j *api.HoseJob) { j.Start = litres(71) }), api.ErrArg},
		{changed(func(j *api.HoseJob) { j.Start = litres(-1) }), api.ErrArg},
		{changed(func(j *api.HoseJob) { j.Start, j.Caps = litres(0), litres(-1) }), api.ErrArg},
		{changed(func(j *api.HoseJob) { j.Start, j.Caps = litres(-1), litres(-1) }), api.ErrArg},
		{changed(func(j *api.HoseJob) { j.Caps = litres(100001) }), api.ErrArg},
		{changed(func(j *api.HoseJob) { j.Start, j.Caps = litres(0, 8), litres(70, 7) }), api.ErrArg},
		{changed(func(j *api.HoseJob) { j.Start, j.Caps = litres(least), litres(most) }), api.ErrArg},
	}
}

// noSteps returns jobs whose steps or pairs are not valid.
func noSteps() []invalid {
	return []invalid{
		{changed(func(j *api.HoseJob) { j.Steps[0].Tank = 1 }), api.ErrArg},
		{changed(func(j *api.HoseJob) { j.Steps[0].Tank = -1 }), api.ErrArg},
		{changed(func(j *api.HoseJob) { j.Steps[3].Tank = least }), api.ErrArg},
		{changed(func(j *api.HoseJob) { j.Steps[0].Change = 100001 }), api.ErrArg},
		{changed(func(j *api.HoseJob) { j.Steps[0].Change = -100001 }), api.ErrArg},
		{changed(func(j *api.HoseJob) { j.Steps[3].Change = least }), api.ErrArg},
		{changed(func(j *api.HoseJob) { j.Steps[1].Hose = 5 }), api.ErrArg},
		{changed(func(j *api.HoseJob) { j.Steps[1].Hose = -1 }), api.ErrArg},
		{changed(func(j *api.HoseJob) { j.Steps[1].Kind = 6 }), api.ErrArg},
		{changed(func(j *api.HoseJob) { j.Steps[1].Kind = -1 }), api.ErrArg},
		{changed(func(j *api.HoseJob) { j.Steps[1].Hose = 0 }), api.ErrArg},
		{changed(func(j *api.HoseJob) { j.Steps[0].Kind, j.Before = 1, pairs(0, 0) }), api.ErrArg},
		{changed(func(j *api.HoseJob) { j.Before = pairs(0, 4) }), api.ErrRange},
		{changed(func(j *api.HoseJob) { j.Before = pairs(4, 0) }), api.ErrRange},
		{changed(func(j *api.HoseJob) { j.Before = pairs(-1, 1) }), api.ErrRange},
		{changed(func(j *api.HoseJob) { j.Before = pairs(1, least) }), api.ErrRange},
		{changed(func(j *api.HoseJob) { j.Before = pairs(most, 1) }), api.ErrRange},
		{changed(func(j *api.HoseJob) { j.Before = pairs(3, 3) }), api.ErrRange},
		{changed(func(j *api.HoseJob) { j.Before = pairs(0, 1, 1, 0, 2, 2) }), api.ErrRange},
		{changed(func(j *api.HoseJob) { j.Steps = nil }), api.ErrRange},
	}
}

// round returns jobs with a circle.
func round() []invalid {
	twelve := changes(0, 9, nil, make([]int64, 12)...)
	for step := range 12 {
		twelve.Before = append(twelve.Before, [2]int{step, (step + 5) % 12})
	}
	return []invalid{
		{changed(func(j *api.HoseJob) { j.Before = pairs(0, 1, 1, 0) }), api.ErrOrder},
		{changed(func(j *api.HoseJob) { j.Before = pairs(0, 1, 1, 2, 2, 3, 3, 1) }), api.ErrOrder},
		{changed(func(j *api.HoseJob) { j.Before = pairs(3, 2, 2, 1, 1, 0, 0, 3) }), api.ErrOrder},
		// two circles, and two that share a step
		{changed(func(j *api.HoseJob) { j.Before = pairs(0, 1, 1, 0, 1, 2, 2, 3, 3, 2) }), api.ErrOrder},
		{changed(func(j *api.HoseJob) { j.Before = pairs(0, 3, 1, 2, 2, 1, 2, 0, 0, 2) }), api.ErrOrder},
		// a walk from 0 leads into a circle, but also past it, and to the end
		{changed(func(j *api.HoseJob) { j.Before = pairs(0, 1, 0, 2, 2, 1, 2, 3, 3, 2) }), api.ErrOrder},
		{twelve, api.ErrOrder},
	}
}

// bad returns jobs that are not valid.
func bad() []invalid { return slices.Concat(noTanks(), noSteps(), round()) }

// P4.1
func TestCheckJob(t *testing.T) {
	for i, j := range []api.HoseJob{
		chapter(),
		{Start: litres(0), Caps: litres(0)},
		{Start: litres(0, 1, 7, 100000), Caps: litres(0, 1, 9, 100000)},
		changes(0, 100000, nil, 100000, -100000),
		changed(func(j *api.HoseJob) { j.Steps = make([]api.HoseStep, 12) }),
		changed(func(j *api.HoseJob) { j.Before = slices.Repeat(j.Before, 60) }),
		changed(func(j *api.HoseJob) { j.Before = pairs(0, 1, 0, 2, 1, 3, 2, 3, 0, 3) }),
		changed(func(j *api.HoseJob) { j.Steps[1].Kind = 0 }),
		changed(func(j *api.HoseJob) { j.Steps[1].Hose, j.Steps[1].Kind = 4, 5 }),
		changed(func(j *api.HoseJob) { j.Start, j.Caps, j.Steps[2].Tank = make([]int64, 4), make([]int64, 4), 3 }),
	} {
		want(t, hose.CheckJob(j), api.OK, i)
		c, e := hose.Circle(j)
		want(t, e, api.ErrNone, i)
		want(t, len(c), 0, i)
	}
	for i, x := range bad() {
		want(t, hose.CheckJob(x.j), x.e, i)
	}
}

// isCircle reports whether a list is a circle, by the definition.
func isCircle(j api.HoseJob, c []int) bool {
	for i, step := range c {
		if slices.Contains(c[:i], step) || !slices.Contains(j.Before, [2]int{step, c[(i+1)%len(c)]}) {
			return false
		}
	}
	return len(c) > 1
}

// P4.1
func TestCircle(t *testing.T) {
	for i, x := range slices.Concat(noTanks(), noSteps()) {
		c, e := hose.Circle(x.j)
		want(t, e, x.e, i)
		want(t, len(c), 0, i)
	}
	for i, x := range round() {
		c, e := hose.Circle(x.j)
		want(t, e, api.OK, i)
		want(t, isCircle(x.j, c), true, i, c)
	}
}

// P4.1: there is a circle just if there is no order.
func TestCircleAgainstAllOrders(t *testing.T) {
	var d die
	counts := map[api.Errno]int{}
	for range 3000 {
		j := d.small()
		for range d.roll(0, 4) {
			if one, two := d.index(max(1, len(j.Steps))), d.index(max(1, len(j.Steps))); one != two {
				j.Before = append(j.Before, [2]int{one, two})
			}
		}
		c, e := hose.Circle(j)
		counts[e]++
		if len(orders(j)) > 0 {
			want(t, hose.CheckJob(j), api.OK, j)
			want(t, e, api.ErrNone, j)
			want(t, len(c), 0, j)
			continue
		}
		want(t, hose.CheckJob(j), api.ErrOrder, j)
		want(t, e, api.OK, j)
		want(t, isCircle(j, c), true, j, c)
	}
	if counts[api.OK] < 300 || counts[api.ErrNone] < 300 {
		t.Error(counts)
	}
}

// P4.1 to P4.8: the error of CheckJob comes before all others, and with it nothing else is returned.
func TestErrorOfTheJobComesFirst(t *testing.T) {
	for i, x := range bad() {
		must, e := hose.Must(x.j, -1, 99)
		want(t, e, x.e, i)
		want(t, must, false, i)
		want(t, count(x.j), number{e: x.e}, i)
		want(t, hose.CheckOrder(x.j, of(7, 7)), x.e, i)
		levels, e := hose.Levels(x.j, of(7, 7))
		want(t, e, x.e, i)
		want(t, len(levels), 0, i)
		want(t, hose.CheckState(x.j, of(7, 7)), x.e, i)
		two, e := hose.Mixed(x.j)
		want(t, e, x.e, i)
		want(t, two, [2]int{}, i)
		want(t, bound(x.j, -1, make([]api.HosePair, 101)), number{e: x.e}, i)
		want(t, bound(x.j, 0, nil), number{e: x.e}, i)
		for _, tank := range []int{-1, 0, 99} {
			checkTankError(t, x.j, tank, x.e)
		}
		for k, f := range []func() ([]int, api.Errno){
			func() ([]int, api.Errno) { return hose.Order(x.j, of(7, 7)) },
			func() ([]int, api.Errno) { return hose.Order(x.j, nil) },
			func() ([]int, api.Errno) { return hose.Plan(x.j) },
			func() ([]int, api.Errno) { return hose.Mix(x.j, [2]int{-1, 99}) },
			func() ([]int, api.Errno) { return hose.Mix(x.j, [2]int{0, 1}) },
		} {
			order, e := f()
			want(t, e, x.e, i, k)
			want(t, len(order), 0, i, k)
		}
	}
}

// P4.2
func TestMust(t *testing.T) {
	row := changes(0, 9, pairs(0, 1, 1, 2, 4, 3), 0, 0, 0, 0, 0)
	for i, x := range []struct {
		one, two int
		must     bool
		e        api.Errno
	}{
		{0, 1, true, api.OK},
		{1, 2, true, api.OK},
		{0, 2, true, api.OK},
		{4, 3, true, api.OK},
		{1, 0, false, api.OK},
		{2, 0, false, api.OK},
		{0, 3, false, api.OK},
		{3, 3, false, api.OK},
		{5, 0, false, api.ErrArg},
		{0, 5, false, api.ErrArg},
		{-1, 0, false, api.ErrArg},
		{0, -1, false, api.ErrArg},
		{least, most, false, api.ErrArg},
	} {
		got, e := hose.Must(row, x.one, x.two)
		want(t, e, x.e, i)
		want(t, got, x.must, i)
	}
	_, e := hose.Must(changes(0, 9, nil), 0, 0)
	want(t, e, api.ErrArg)
	// Twelve steps in a row, the last pair first.
	long := changes(0, 9, nil, make([]int64, 12)...)
	for step := range 11 {
		long.Before = append(pairs(step, step+1), long.Before...)
	}
	for _, p := range twos(long) {
		got, e := hose.Must(long, p[0], p[1])
		want(t, e, api.OK, p)
		want(t, got, p[0] < p[1], p)
	}
}

// P4.2
func TestCount(t *testing.T) {
	for i, x := range []struct {
		j api.HoseJob
		n int64
	}{
		{chapter(), 12},
		{changes(0, 0, nil), 1},
		{changes(0, 0, nil, 5), 1},
		{changes(0, 0, nil, make([]int64, 12)...), 479001600},
		{changes(0, 0, pairs(0, 11), make([]int64, 12)...), 239500800},
		{changes(0, 0, pairs(11, 10, 10, 9, 10, 9), make([]int64, 12)...), 79833600},
		{changes(0, 0, pairs(0, 1, 1, 2, 2, 3), 0, 0, 0, 0), 1},
		{changes(0, 0, pairs(0, 2, 1, 2), 0, 0, 0), 2},
		{changes(0, 0, pairs(0, 2, 1, 2, 1, 3), 0, 0, 0, 0), 5},
		// two rows of six steps each
		{changes(0, 0, pairs(0, 1, 1, 2, 2, 3, 3, 4, 4, 5, 6, 7, 7, 8, 8, 9, 9, 10, 10, 11), make([]int64, 12)...), 924},
	} {
		want(t, count(x.j), number{x.n, api.OK}, i)
	}
}

// P4.2: all steps of small jobs against all orders.
func TestMustAndCountAgainstAllOrders(t *testing.T) {
	var d die
	for range 500 {
		j := d.small()
		all := orders(j)
		want(t, count(j), number{int64(len(all)), api.OK}, j)
		for _, p := range twos(j) {
			got, e := hose.Must(j, p[0], p[1])
			want(t, e, api.OK, j, p)
			want(t, got, must(all, p[0], p[1]), j, p)
		}
	}
}

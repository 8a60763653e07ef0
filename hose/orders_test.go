package hose_test

import (
	"slices"
	"testing"

	"forecourt/api"
	"forecourt/hose"
)

// P4.3
func TestOrders(t *testing.T) {
	two := chapter()
	two.Start, two.Caps = litres(20, 5), litres(70, 9)
	two.Steps[2].Tank = 1
	for i, x := range []struct {
		j      api.HoseJob
		order  []int
		levels []int64
		e      api.Errno
	}{
		{chapter(), of(0, 1, 2, 3), litres(5, 55, 25, 45), api.OK},
		{chapter(), of(3, 2, 0, 1), litres(40, 10, -5, 45), api.OK},
		{chapter(), of(3, 0, 1, 2), litres(40, 25, 75, 45), api.OK},
		{two, of(2, 0, 3, 1), litres(-25, 5, 25, 75), api.OK},
		{changes(3, 9, nil), nil, nil, api.OK},
		{changes(3, 9, nil), of(0), nil, api.ErrEqual},
		{chapter(), nil, nil, api.ErrEqual},
		{chapter(), of(0, 1, 2), nil, api.ErrEqual},
		{chapter(), of(1, 0, -1), nil, api.ErrEqual},
		{chapter(), of(0, 1, 2, 3, 3), nil, api.ErrEqual},
		{chapter(), make([]int, 5000), nil, api.ErrEqual},
		{chapter(), of(0, 1, 2, 2), nil, api.ErrRange},
		{chapter(), of(0, 0, 0, 0), nil, api.ErrRange},
		{chapter(), of(1, 0, 2, 4), nil, api.ErrRange},
		{chapter(), of(1, 0, 2, -1), nil, api.ErrRange},
		{chapter(), of(1, 0, 3, 3), nil, api.ErrRange},
		{chapter(), of(0, 1, most, least), nil, api.ErrRange},
		{chapter(), of(1, 0, 2, 3), nil, api.ErrRule},
		{chapter(), of(3, 2, 1, 0), nil, api.ErrRule},
	} {
		want(t, hose.CheckOrder(x.j, x.order), x.e, i)
		levels, e := hose.Levels(x.j, x.order)
		want(t, e, x.e, i)
		wantList(t, levels, x.levels, i)
	}
}

// P4.3: all lists of the steps of small jobs.
func TestOrdersAgainstTheDefinition(t *testing.T) {
	var d die
	for range 100 {
		j := d.small()
		for _, order := range lists(len(j.Steps)) {
			var wanted []int64
			e := api.ErrRule
			if isOrder(j, order) {
				e = api.OK
				for i, step := range order {
					wanted = append(wanted, level(j, j.Steps[step].Tank, order[:i+1]))
				}
			}
			want(t, hose.CheckOrder(j, order), e, j, order)
			levels, f := hose.Levels(j, order)
			want(t, f, e, j, order)
			wantList(t, levels, wanted, j, order)
		}
	}
}

// P4.4
func TestStates(t *testing.T) {
	crossed := changes(0, 0, pairs(3, 0, 2, 1), 0, 0, 0, 0)
	for i, x := range []struct {
		j     api.HoseJob
		state []int
		order []int
		e     api.Errno
	}{
		{chapter(), of(0, 2), of(0, 2, 1, 3), api.OK},
		{chapter(), nil, of(0, 1, 2, 3), api.OK},
		{chapter(), of(2, 3), of(2, 3, 0, 1), api.OK},
		{chapter(), of(3), of(3, 0, 1, 2), api.OK},
		{chapter(), of(0, 1, 2, 3), of(0, 1, 2, 3), api.OK},
		{changes(0, 0, nil), nil, nil, api.OK},
		{crossed, of(0, 3), of(3, 0, 2, 1), api.OK},
		{crossed, nil, of(2, 1, 3, 0), api.OK},
		{crossed, of(0, 1, 2, 3), of(2, 1, 3, 0), api.OK},
		{crossed, of(2, 3), of(2, 3, 0, 1), api.OK},
		{chapter(), of(1), nil, api.ErrRule},
		{chapter(), of(1, 2, 3), nil, api.ErrRule},
		{crossed, of(0, 1, 3), nil, api.ErrRule},
		{chapter(), of(2, 0), nil, api.ErrRange},
		{chapter(), of(2, 2), nil, api.ErrRange},
		{chapter(), of(1, 1), nil, api.ErrRange},
		{chapter(), of(0, 4), nil, api.ErrRange},
		{chapter(), of(1, 4), nil, api.ErrRange},
		{chapter(), of(-1, 1), nil, api.ErrRange},
		{chapter(), of(0, 1, 2, 3, 4), nil, api.ErrRange},
		{chapter(), of(1, most), nil, api.ErrRange},
		{chapter(), of(least, 1), nil, api.ErrRange},
		{chapter(), make([]int, 5000), nil, api.ErrRange},
		{changes(0, 0, nil), of(0), nil, api.ErrRange},
	} {
		want(t, hose.CheckState(x.j, x.state), x.e, i)
		order, e := hose.Order(x.j, x.state)
		want(t, e, x.e, i)
		wantList(t, order, x.order, i)
	}
}

// P4.4: all sets of the steps of small jobs, against all orders.
func TestStatesAgainstTheDefinition(t *testing.T) {
	var d die
	for range 300 {
		j := d.small()
		all := orders(j)
		for _, set := range sets(j) {
			order, e := hose.Order(j, set)
			want(t, hose.CheckState(j, set), e, j, set)
			i := slices.IndexFunc(all, func(l []int) bool { return slices.Equal(slices.Sorted(slices.Values(l[:len(set)])), set) })
			want(t, i >= 0, isState(j, set), j, set)
			if i < 0 {
				want(t, e, api.ErrRule, j, set)
				want(t, len(order), 0, j, set)
				continue
			}
			want(t, e, api.OK, j, set)
			wantList(t, order, all[i], j, set)
		}
	}
}

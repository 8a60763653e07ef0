package stock_test

import (
	"slices"
	"testing"

	"forecourt/api"
	"forecourt/stock"
)

// noSets returns lists that are not sets of a net of two tanks.
func noSets() [][]int {
	return [][]int{{3}, {-1}, {-1, 2}, {2, 1}, {2, 2}, {0, 0}, {0, 1, 2, 3}, {0, 1, 2, 2}, {least}, {most}, {0, most}, {1, least}, make([]int, 5000)}
}

// shortness is what CheckShort returns.
type shortness struct {
	by int64
	e  api.Errno
}

func checkShort(n api.StockNet, set []int) shortness {
	by, e := stock.CheckShort(n, set)
	return shortness{by, e}
}

// P3.3
func TestCheckShort(t *testing.T) {
	for i, x := range []struct {
		n    api.StockNet
		set  []int
		want shortness
	}{
		{lost(), []int{2}, shortness{15, api.OK}},
		{lost(), []int{1, 2}, shortness{0, api.ErrNone}},
		{lost(), []int{0, 1}, shortness{0, api.ErrNone}},
		{lost(), []int{0, 1, 2}, shortness{0, api.ErrNone}},
		{lost(), nil, shortness{0, api.ErrNone}},
		{lost(), []int{}, shortness{0, api.ErrNone}},
		{chapter(), []int{2}, shortness{0, api.ErrNone}},
		{net(1, 0, 1, 5, 9), []int{0}, shortness{5, api.OK}},
		{net(1, 0, 1, 5, 9), []int{1}, shortness{0, api.ErrNone}},
		// short by 1, and by 0
		{net(1, 0, 1, 0, 4, 1, 0, 5, 9), []int{1}, shortness{1, api.OK}},
		{net(1, 0, 1, 0, 5, 1, 0, 5, 9), []int{1}, shortness{0, api.ErrNone}},
		{net(12, 12, 0, 7, 8), []int{12}, shortness{7, api.OK}},
		{many(12, 40), []int{0}, shortness{0, api.ErrNone}},
		{net(1, slices.Repeat([]int64{1, 0, 100000, 100000}, 40)...), []int{1}, shortness{4000000, api.OK}},
	} {
		want(t, checkShort(x.n, x.set), x.want, i)
	}
	for i, set := range noSets() {
		want(t, checkShort(lost(), set), shortness{e: api.ErrRange}, i)
	}
}

// P3.3: all sets of small nets against the definition.
func TestCheckShortAgainstTheDefinition(t *testing.T) {
	var d die
	for range 2000 {
		n := d.small()
		for _, set := range sets(n) {
			wanted := shortness{e: api.ErrNone}
			if by := shortOf(n, set); by > 0 {
				wanted = shortness{by: by}
			}
			want(t, checkShort(n, set), wanted, n, set)
		}
	}
}

// P3.3: a set that is short is found just if there is no truth.
func TestShortAgainstAllTruths(t *testing.T) {
	var d die
	counts := map[api.Errno]int{}
	for range 4000 {
		n := d.small()
		set, e := stock.Short(n)
		counts[e]++
		if len(truths(n)) > 0 {
			want(t, e, api.ErrNone, n)
			want(t, len(set), 0, n)
			continue
		}
		want(t, e, api.OK, n)
		want(t, slices.ContainsFunc(sets(n), func(s []int) bool { return slices.Equal(s, set) }), true, n, set)
		if shortOf(n, set) <= 0 {
			t.Fatal(n, set)
		}
	}
	if counts[api.OK] < 500 || counts[api.ErrNone] < 500 {
		t.Error(counts)
	}
}

// P3.5
func TestCheckBound(t *testing.T) {
	for i, x := range []struct {
		flow int
		high bool
		set  []int
		want boundOf
	}{
		{2, false, []int{1}, boundOf{50, api.OK}},
		{2, false, []int{1, 2}, boundOf{30, api.OK}},
		{2, true, []int{1}, boundOf{80, api.OK}},
		{3, true, []int{2}, boundOf{50, api.OK}},
		{3, true, []int{1, 2}, boundOf{70, api.OK}},
		{3, false, []int{2}, boundOf{30, api.OK}},
		{3, false, nil, boundOf{45, api.OK}},
		{3, true, nil, boundOf{70, api.OK}},
		{3, true, []int{}, boundOf{70, api.OK}},
		{0, false, []int{0}, boundOf{85, api.OK}},
		{0, true, []int{0, 2}, boundOf{110, api.OK}},
		{1, false, []int{0, 1}, boundOf{45, api.OK}},
		{1, false, []int{0}, boundOf{0, api.ErrRule}},
		{1, false, []int{2}, boundOf{0, api.ErrRule}},
		{1, true, []int{1, 2}, boundOf{0, api.ErrRule}},
		{1, true, []int{0, 1, 2}, boundOf{0, api.ErrRule}},
		{4, false, []int{1}, boundOf{0, api.ErrRange}},
		{4, true, nil, boundOf{0, api.ErrRange}},
		{-1, false, nil, boundOf{0, api.ErrRange}},
		{least, false, nil, boundOf{0, api.ErrRange}},
		{most, true, []int{1}, boundOf{0, api.ErrRange}},
	} {
		want(t, bound(chapter(), x.flow, x.high, x.set), x.want, i)
	}
	for i, set := range noSets() {
		want(t, bound(chapter(), 1, true, set), boundOf{e: api.ErrRange}, i)
		want(t, bound(lost(), 1, false, set), boundOf{e: api.ErrRange}, i)
	}
	// Bounds are told of a net without a truth as well, and can be below 0, or above what can be.
	want(t, bound(lost(), 3, true, []int{2}), boundOf{30, api.OK})
	want(t, bound(net(1, 1, 0, 0, 5, 1, 0, 3, 9, 0, 1, 0, 2), 0, true, []int{1}), boundOf{-1, api.OK})
	want(t, bound(net(1, 1, 0, 0, 5, 1, 0, 3, 9, 0, 1, 0, 2), 0, false, []int{1}), boundOf{-9, api.OK})
	want(t, bound(net(1), 0, false, nil), boundOf{e: api.ErrRange})
}

// P3.5: all sets of small nets against the definition.
func TestCheckBoundAgainstTheDefinition(t *testing.T) {
	var d die
	for range 1000 {
		n := d.small()
		for _, set := range sets(n) {
			for flow := range n.Flows {
				for _, high := range []bool{false, true} {
					want(t, bound(n, flow, high, set), bounded(n, flow, high, set), n, flow, high, set)
				}
			}
		}
	}
}

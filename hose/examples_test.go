package hose_test

import (
	"testing"

	"forecourt/api"
	"forecourt/hose"
)

// The examples of the chapter.
func TestExamples(t *testing.T) {
	j := chapter()
	want(t, count(j), number{12, api.OK})
	levels, e := hose.Levels(j, of(0, 1, 2, 3))
	want(t, e, api.OK)
	wantList(t, levels, litres(5, 55, 25, 45))
	_, e = hose.Levels(j, of(1, 0, 2, 3))
	want(t, e, api.ErrRule)
	n, state, e := hose.Highest(j, 0)
	want(t, e, api.OK)
	want(t, n, 75)
	wantList(t, state, of(0, 1, 3))
	n, state, e = hose.Lowest(j, 0)
	want(t, e, api.OK)
	want(t, n, -25)
	wantList(t, state, of(0, 2))
	want(t, bound(j, 0, proof(0, 1, 15)), number{75, api.OK})
	want(t, bound(j, 0, proof(2, 1, 15)), number{0, api.ErrSum})
	order, e := hose.Order(j, of(0, 2))
	want(t, e, api.OK)
	wantList(t, order, of(0, 2, 1, 3))
	_, e = hose.Order(j, of(1))
	want(t, e, api.ErrRule)
	plan, e := hose.Plan(j)
	want(t, e, api.OK)
	wantList(t, plan, of(0, 1, 2, 3))
	two, e := hose.Mixed(j)
	want(t, e, api.OK)
	want(t, two, [2]int{1, 3})
	j.Before, j.Steps[2].Hose = pairs(0, 1, 1, 2, 2, 3), 1
	_, e = hose.Mixed(j)
	want(t, e, api.ErrNone)
}

// The chapter's job has 75 litres in some of its orders, and more in none.
func TestLevelsOfAllOrdersOfTheExample(t *testing.T) {
	j := chapter()
	all := orders(j)
	want(t, len(all), 12)
	reached := int64(0)
	for _, order := range all {
		for i := range order {
			reached = max(reached, level(j, 0, order[:i+1]))
		}
	}
	want(t, reached, 75)
}

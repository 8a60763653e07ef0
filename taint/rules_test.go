package taint_test

import (
	"reflect"
	"slices"
	"testing"

	"forecourt/api"
	"forecourt/taint"
)

// given is arguments for all functions of the package.
type given struct {
	y             api.TaintYard
	s             api.TaintStart
	vessel        int
	trail, spoilt []int
	l             []int64
}

// results calls all functions of the package, and returns all that they return.
func results(g given) []any {
	var l []any
	add := func(more ...any) { l = append(l, more...) }
	add(taint.CheckYard(g.y), taint.CheckArrivals(g.y, g.s, g.l))
	add(taint.CheckTrail(g.y, g.s, g.vessel, g.trail, false), taint.CheckTrail(g.y, g.s, g.vessel, g.trail, true))
	trail, e := taint.Trail(g.y, g.s, g.vessel)
	add(trail, e)
	come, e := taint.Arrivals(g.y, g.s)
	add(come, e)
	moves, e := taint.Carried(g.y, g.s)
	add(moves, e)
	vessels, e := taint.Sure(g.y, g.s)
	add(vessels, e)
	passed, e := taint.Passed(g.y, g.s, g.vessel)
	add(passed, e)
	causes, e := taint.Causes(g.y, g.spoilt)
	add(causes, e)
	return l
}

// copied returns equal arguments in other memory.
func (g given) copied() given {
	g.y.Moves = slices.Clone(g.y.Moves)
	g.trail, g.spoilt, g.l = slices.Clone(g.trail), slices.Clone(g.spoilt), slices.Clone(g.l)
	return g
}

// given returns arguments that are valid, but that the trail need not be one, nor the arrivals right.
func (d *die) given() given {
	y := d.yard(int(d.roll(2, 8)), int(d.roll(1, 16)), 50, 20)
	g := given{y: y, s: at(d.index(y.Vessels), d.roll(0, 20)), vessel: d.index(y.Vessels), spoilt: d.moves(y, int(d.roll(1, 3)))}
	g.l, _ = taint.Arrivals(y, g.s)
	g.l[d.index(len(g.l))] = d.roll(0, 50)
	trail, e := taint.Trail(y, g.s, g.vessel)
	if e != api.OK || len(trail) == 0 {
		trail = of(d.index(len(y.Moves)))
	}
	g.trail = trail
	return g
}

// numbers returns where the numbers of arguments are: times, and all others.
func (g *given) numbers() (when []*int64, names []*int) {
	when, names = []*int64{&g.s.Time}, []*int{&g.y.Vessels, &g.s.Vessel, &g.vessel}
	for i := range g.y.Moves {
		m := &g.y.Moves[i]
		when, names = append(when, &m.Time.Lo, &m.Time.Hi), append(names, &m.From, &m.To)
	}
	for i := range g.l {
		when = append(when, &g.l[i])
	}
	for _, list := range [][]int{g.trail, g.spoilt} {
		for i := range list {
			names = append(names, &list[i])
		}
	}
	return when, names
}

// P1: with numbers of any size nothing panics, and all calls end.
func TestAnyArguments(t *testing.T) {
	odd := []int64{
		least, least + 1, -1 << 32, -100001, -100000, -64, -20, -1, 0, 1, 2, 5, 19, 20, 21, 39, 40, 41, 63, 64,
		99999, 100000, 100001, never - 1, never, never + 1, 1 << 31, 1 << 32, 1 << 53, most - 1, most,
	}
	var d die
	pick := func() int64 { return odd[d.index(len(odd))] }
	for range 5000 {
		g := d.given()
		when, names := g.numbers()
		for range d.roll(0, 2) {
			*when[d.index(len(when))] = pick()
			*names[d.index(len(names))] = int(pick())
		}
		results(g)
	}
}

// P1: yards of the greatest size, with all numbers at their ends, and lists at and above their limits.
func TestGreatestArguments(t *testing.T) {
	var d die
	for range 30 {
		g := given{y: d.yard(20, 40, 100000, 100000), s: at(19, 100000*d.roll(0, 1)), vessel: d.index(20)}
		for i := range g.y.Moves {
			g.y.Moves[i].Time = api.Range{Lo: 0, Hi: 100000}
			g.trail, g.spoilt = append(g.trail, i), append(g.spoilt, i)
		}
		g.l = slices.Repeat(times(100000, never), 10)
		results(g)
		g.spoilt = g.spoilt[:1]
		results(g)
		g.trail, g.spoilt, g.l = make([]int, 1<<16), make([]int, 1<<16), make([]int64, 1<<16)
		results(g)
		g.y.Moves = make([]api.TaintMove, 1<<16)
		results(g)
	}
}

// R4, R5 and R10: no argument is changed, nothing is kept of it, and equal calls return equal results.
func TestArgumentsStay(t *testing.T) {
	var d die
	for range 300 {
		g := d.given()
		behind := move(7, 3, 1, 2)
		g.y.Moves = append(g.y.Moves, behind)[:len(g.y.Moves)]
		g.l = append(g.l, 77)[:len(g.l)]
		other := g.copied()
		wanted := results(other)
		for range 3 {
			if got := results(g); !reflect.DeepEqual(got, wanted) {
				t.Fatal(g, got, wanted)
			}
			results(d.given())
		}
		if !reflect.DeepEqual(g, other) {
			t.Fatal(g, other)
		}
		want(t, g.y.Moves[:len(g.y.Moves)+1][len(g.y.Moves)], behind, g)
		want(t, g.l[:len(g.l)+1][len(g.l)], 77, g)
	}
}

// wipe writes into a list, and behind it.
func wipe(x any) {
	switch list := x.(type) {
	case []int64:
		clear(list[:cap(list)])
	case []int:
		clear(list[:cap(list)])
	case []api.TaintStart:
		clear(list[:cap(list)])
	}
}

// R5: what is written into a result, or behind it, is seen nowhere else.
func TestResultsAreNewMemory(t *testing.T) {
	for _, g := range []given{
		{y: chapter(), s: at(0, 5), vessel: 5, trail: of(0, 3, 4), spoilt: of(2, 4), l: times(5, 10, 15, never, 11, 16)},
		{y: fork(), s: at(0, 0), vessel: 3, trail: of(0, 3, 4), spoilt: of(2, 4), l: times(0, 0, 0, 0, 0)},
	} {
		before := g.copied()
		wanted := results(g)
		for i, result := range results(g) {
			again := results(g)
			wipe(result)
			if !reflect.DeepEqual(again, wanted) {
				t.Fatal(i, again, wanted)
			}
		}
		if got := results(g); !reflect.DeepEqual(got, wanted) || !reflect.DeepEqual(g, before) {
			t.Fatal(got, wanted)
		}
	}
}

// R2: with an error there is no list.
func TestNoListsWithErrors(t *testing.T) {
	var d die
	for range 300 {
		g := d.given()
		switch d.roll(0, 3) {
		case 0:
			g.y.Vessels = 0
		case 1:
			g.s.Time = -1
		case 2:
			g.vessel, g.spoilt = g.y.Vessels, nil
		}
		l := results(g)
		for i := 1; i < len(l); i++ {
			if e, ok := l[i].(api.Errno); ok && e != api.OK && reflect.TypeOf(l[i-1]).Kind() == reflect.Slice {
				want(t, reflect.ValueOf(l[i-1]).Len(), 0, g, i)
			}
		}
	}
}

// R3: a nil list and an empty one are the same.
func TestNilAndEmpty(t *testing.T) {
	one := given{y: yard(2)}
	two := given{y: api.TaintYard{Vessels: 2, Moves: []api.TaintMove{}}, trail: []int{}, spoilt: []int{}, l: []int64{}}
	if a, b := results(one), results(two); !reflect.DeepEqual(a, b) {
		t.Error(a, b)
	}
	one.y, two.y = chapter(), chapter()
	if a, b := results(one), results(two); !reflect.DeepEqual(a, b) {
		t.Error(a, b)
	}
}

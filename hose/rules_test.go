package hose_test

import (
	"reflect"
	"slices"
	"testing"

	"forecourt/api"
	"forecourt/hose"
)

// given is arguments for all functions of the package.
type given struct {
	j            api.HoseJob
	order, state []int
	tank         int
	two          [2]int
	l            []api.HosePair
}

// results calls all functions of the package, and returns all that they return.
func results(g given) []any {
	var l []any
	add := func(more ...any) { l = append(l, more...) }
	add(hose.CheckJob(g.j), count(g.j), hose.CheckOrder(g.j, g.order), hose.CheckState(g.j, g.state), bound(g.j, g.tank, g.l))
	circle, e := hose.Circle(g.j)
	add(circle, e)
	must, e := hose.Must(g.j, g.two[0], g.two[1])
	add(must, e)
	levels, e := hose.Levels(g.j, g.order)
	add(levels, e)
	order, e := hose.Order(g.j, g.state)
	add(order, e)
	n, state, e := hose.Highest(g.j, g.tank)
	add(n, state, e)
	n, state, e = hose.Lowest(g.j, g.tank)
	add(n, state, e)
	proof, e := hose.Pairs(g.j, g.tank)
	add(proof, e)
	plan, e := hose.Plan(g.j)
	add(plan, e)
	two, e := hose.Mixed(g.j)
	add(two, e)
	mix, e := hose.Mix(g.j, g.two)
	add(mix, e)
	return l
}

// copied returns equal arguments in other memory.
func (g given) copied() given {
	g.j = copied(g.j)
	g.order, g.state, g.l = slices.Clone(g.order), slices.Clone(g.state), slices.Clone(g.l)
	return g
}

// given returns arguments that are valid, but for the pairs, and but that both steps need not be able to meet.
func (d *die) given() given {
	j, order := d.job(int(d.roll(1, 4)), int(d.roll(1, 8)), int(d.roll(0, 20)), 99)
	all := states(j)
	g := given{j: j, order: order, state: all[d.index(len(all))], tank: d.index(len(j.Caps))}
	g.two = [2]int{d.index(len(order)), d.index(len(order))}
	for range d.roll(1, 3) {
		g.l = append(g.l, api.HosePair{Gone: d.index(len(order)), Come: d.index(len(order)), Litres: d.roll(1, 9)})
	}
	return g
}

// numbers returns where the numbers of arguments are: litres, and all others.
func (g *given) numbers() (litres []*int64, names []*int) {
	names = []*int{&g.tank, &g.two[0], &g.two[1]}
	for i := range g.j.Caps {
		litres = append(litres, &g.j.Caps[i], &g.j.Start[i])
	}
	for i := range g.j.Steps {
		s := &g.j.Steps[i]
		litres, names = append(litres, &s.Change), append(names, &s.Tank, &s.Hose, &s.Kind)
	}
	for i := range g.j.Before {
		names = append(names, &g.j.Before[i][0], &g.j.Before[i][1])
	}
	for i := range g.l {
		litres, names = append(litres, &g.l[i].Litres), append(names, &g.l[i].Gone, &g.l[i].Come)
	}
	for _, list := range [][]int{g.order, g.state} {
		for i := range list {
			names = append(names, &list[i])
		}
	}
	return litres, names
}

// P1: with numbers of any size nothing panics, and all calls end.
func TestAnyArguments(t *testing.T) {
	odd := []int64{
		least, least + 1, -1 << 32, -100001, -100000, -64, -16, -1, 0, 1, 2, 4, 5, 6, 11, 12, 13, 15, 16, 17, 31, 32, 63, 64,
		100000, 100001, 1 << 31, 1 << 32, 1 << 53, most - 1, most,
	}
	var d die
	pick := func() int64 { return odd[d.index(len(odd))] }
	for range 5000 {
		g := d.given()
		litres, names := g.numbers()
		for range d.roll(0, 2) {
			*litres[d.index(len(litres))] = pick()
			*names[d.index(len(names))] = int(pick())
		}
		results(g)
	}
}

// P1: jobs of the greatest size, with all numbers at their ends, and with circles.
func TestGreatestArguments(t *testing.T) {
	var d die
	for range 30 {
		g := given{tank: 3, two: [2]int{0, 11}}
		for range 4 {
			g.j.Start, g.j.Caps = append(g.j.Start, 100000*d.roll(0, 1)), append(g.j.Caps, 100000)
		}
		for step := range 12 {
			g.j.Steps = append(g.j.Steps, api.HoseStep{Tank: d.index(4), Change: 100000 - 200000*d.roll(0, 1), Hose: 4, Kind: int(d.roll(0, 5))})
			g.order, g.state = append(g.order, step), append(g.state, step)
		}
		for range 60 {
			one := d.index(12)
			g.j.Before = append(g.j.Before, [2]int{one, (one + 1 + d.index(11)) % 12})
		}
		g.l = slices.Repeat(proof(0, 11, 100000), 100)
		results(g)
		for i, p := range g.j.Before {
			g.j.Before[i] = [2]int{min(p[0], p[1]), max(p[0], p[1])}
		}
		results(g)
		g.j.Before = nil
		results(g)
	}
}

// R4, R5 and R10: no argument is changed, nothing is kept of it, and equal calls return equal results.
func TestArgumentsStay(t *testing.T) {
	var d die
	for range 200 {
		g := d.given()
		behind := [2]int{7, 3}
		g.j.Before = append(g.j.Before, behind)[:len(g.j.Before)]
		g.order = append(g.order, 77)[:len(g.order)]
		other := g.copied()
		wanted := results(other)
		for range 3 {
			if got := results(g); !reflect.DeepEqual(got, wanted) {
				t.Fatal(g, got, wanted)
			}
			results(d.given())
		}
		if !reflect.DeepEqual(g, other) {
			t.Fatal(g, other)
		}
		want(t, g.j.Before[:len(g.j.Before)+1][len(g.j.Before)], behind, g)
		want(t, g.order[:len(g.order)+1][len(g.order)], 77, g)
	}
}

// wipe writes into a list, and behind it.
func wipe(x any) {
	switch list := x.(type) {
	case []int64:
		clear(list[:cap(list)])
	case []int:
		clear(list[:cap(list)])
	case []api.HosePair:
		clear(list[:cap(list)])
	}
}

// R5: what is written into a result, or behind it, is seen nowhere else.
func TestResultsAreNewMemory(t *testing.T) {
	g := given{j: chapter(), order: of(0, 1, 2, 3), state: of(0, 2), two: [2]int{1, 3}, l: proof(0, 1, 15)}
	circled := g.copied()
	circled.j.Before = pairs(0, 1, 1, 2, 2, 0)
	for _, x := range []given{g, circled} {
		before := x.copied()
		wanted := results(x)
		for range 2 {
			for i, result := range results(x) {
				again := results(x)
				wipe(result)
				if !reflect.DeepEqual(again, wanted) {
					t.Fatal(i, again, wanted)
				}
			}
			if got := results(x); !reflect.DeepEqual(got, wanted) || !reflect.DeepEqual(x, before) {
				t.Fatal(got, wanted)
			}
		}
	}
}

// R3: a nil list and an empty one are the same.
func TestNilAndEmpty(t *testing.T) {
	one := given{j: api.HoseJob{Start: litres(3), Caps: litres(9)}}
	two := given{j: api.HoseJob{Start: litres(3), Caps: litres(9), Steps: []api.HoseStep{}, Before: [][2]int{}}, order: []int{}, state: []int{}, l: []api.HosePair{}}
	if a, b := results(one), results(two); !reflect.DeepEqual(a, b) {
		t.Error(a, b)
	}
	one.j, two.j = chapter(), chapter()
	if a, b := results(one), results(two); !reflect.DeepEqual(a, b) {
		t.Error(a, b)
	}
	one.j, two.j = api.HoseJob{}, api.HoseJob{Start: []int64{}, Caps: []int64{}}
	if a, b := results(one), results(two); !reflect.DeepEqual(a, b) {
		t.Error(a, b)
	}
}

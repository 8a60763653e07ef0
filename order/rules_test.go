package order_test

import (
	"reflect"
	"slices"
	"testing"

	"forecourt/api"
	"forecourt/order"
)

// given is arguments for all functions of the package.
type given struct {
	k             api.OrderKind
	plan          []int
	start         int64
	sales, values []int64
}

// results calls all functions of the package, and returns all that they return.
func results(g given) []any {
	var l []any
	add := func(more ...any) { l = append(l, more...) }
	add(order.CheckKind(g.k))
	bounds, e := order.Bounds(g.k)
	add(bounds, e)
	n, e := order.CheckPlan(g.k, g.plan)
	add(n, e)
	left, e := order.Follow(g.k, g.plan, g.start, g.sales)
	add(left, e)
	plan, n, e := order.Best(g.k)
	add(plan, n, e)
	one, two, e := order.Clash(g.k)
	add(one, two, e)
	n, e = order.CheckValues(g.k, g.values)
	add(n, e)
	values, e := order.Values(g.k)
	add(values, e)
	return l
}

// copied returns equal arguments in other memory.
func (g given) copied() given {
	g.k = copied(g.k)
	g.plan, g.sales, g.values = slices.Clone(g.plan), slices.Clone(g.sales), slices.Clone(g.values)
	return g
}

// given returns arguments that are valid.
func (d *die) given() given {
	k := d.any()
	g := given{k: k, plan: d.plan(k), values: d.values(k)}
	if plan, _, e := order.Best(k); e == api.OK {
		g.plan = plan
	}
	g.start, g.sales = d.truth(k)
	return g
}

// numbers returns where the numbers of arguments are: litres and costs, and loads.
func (g *given) numbers() (litres []*int64, loads []*int) {
	litres, loads = []*int64{&g.k.Cap, &g.k.Load, &g.k.Start.Lo, &g.k.Start.Hi, &g.start}, []*int{&g.k.Most}
	for i := range g.k.Sales {
		litres = append(litres, &g.k.Sales[i].Lo, &g.k.Sales[i].Hi)
	}
	for _, list := range [][]int64{g.k.Costs, g.sales, g.values} {
		for i := range list {
			litres = append(litres, &list[i])
		}
	}
	for i := range g.plan {
		loads = append(loads, &g.plan[i])
	}
	return litres, loads
}

// P1: with numbers of any size, and lists of any length, nothing panics, and all calls end.
func TestAnyArguments(t *testing.T) {
	odd := []int64{
		lowest, lowest + 1, -1 << 40, -100001, -100000, -11, -10, -1, 0, 1, 2, 9, 10, 11, 19, 20, 21, 199, 200, 201,
		99999, 100000, 100001, 1 << 31, 1 << 32, 1 << 53, 1 << 62, highest - 1, highest,
	}
	var d die
	pick := func() int64 { return odd[d.index(len(odd))] }
	for range 5000 {
		g := d.given()
		litres, loads := g.numbers()
		for range d.roll(0, 2) {
			*litres[d.index(len(litres))] = pick()
			*loads[d.index(len(loads))] = int(pick())
		}
		switch d.roll(0, 8) {
		case 0:
			g.k.Sales = g.k.Sales[1:]
		case 1:
			g.k.Sales, g.k.Costs = append(g.k.Sales, g.k.Sales...), append(g.k.Costs, g.k.Costs...)
		case 2:
			g.plan, g.sales, g.values = g.plan[1:], append(g.sales, 1), nil
		case 3:
			g.k.Costs = nil
		}
		results(g)
	}
}

// P1: arguments at and above their limits.
func TestGreatestArguments(t *testing.T) {
	for _, load := range list(1, 10, 9999, 10000, 100000) {
		for _, sold := range list(0, 10, 10000, 100000) {
			g := given{start: 0}
			g.k = kind(100000, load, 10, rg(0, 0), slices.Repeat(days(sold, sold), 20), slices.Repeat(list(100000), 20)...)
			g.plan, g.sales, g.values = slices.Repeat(of(10), 20), slices.Repeat(list(sold), 20), slices.Repeat(list(100000, 0), 10)
			results(g)
			g.plan, g.sales, g.values = make([]int, 1<<16), make([]int64, 1<<16), make([]int64, 1<<16)
			results(g)
			g.k.Costs = make([]int64, 1<<16)
			results(g)
			g.k.Sales = make([]api.Range, 1<<16)
			results(g)
		}
	}
}

// R4, R5 and R10: no argument is changed, also behind its end, nothing is kept of it, and equal calls return equal results.
func TestArgumentsStay(t *testing.T) {
	var d die
	for range 300 {
		g := d.given()
		g.k.Sales = append(g.k.Sales, rg(7, 77))[:len(g.k.Sales)]
		g.k.Costs = append(g.k.Costs, 77)[:len(g.k.Costs)]
		g.plan = append(g.plan, 77)[:len(g.plan)]
		g.sales = append(g.sales, 77)[:len(g.sales)]
		g.values = append(g.values, 77)[:len(g.values)]
		other := g.copied()
		wanted := results(other)
		for range 3 {
			if got := results(g); !reflect.DeepEqual(got, wanted) {
				t.Fatal(g, got, wanted)
			}
			results(d.given())
		}
		if !reflect.DeepEqual(g, other) {
			t.Fatal(g, other)
		}
		days := len(g.k.Sales)
		want(t, g.k.Sales[:days+1][days], rg(7, 77), g)
		want(t, g.plan[:days+1][days], 77, g)
		for _, list := range [][]int64{g.k.Costs, g.sales, g.values} {
			want(t, list[:days+1][days], 77, g)
		}
	}
}

// wipe writes into a list, and behind it.
func wipe(x any) {
	switch list := x.(type) {
	case []int64:
		clear(list[:cap(list)])
	case []int:
		clear(list[:cap(list)])
	case []api.Range:
		clear(list[:cap(list)])
	}
}

// R5: what is written into a result, or behind it, is seen nowhere else.
func TestResultsAreNewMemory(t *testing.T) {
	var d die
	for range 50 {
		g := d.given()
		before := g.copied()
		wanted := results(g)
		for i := range wanted {
			again, other := results(g), results(g)
			wipe(again[i])
			if !reflect.DeepEqual(other, wanted) {
				t.Fatal(i, other, wanted)
			}
			for j := range again {
				if j != i && !reflect.DeepEqual(again[j], wanted[j]) {
					t.Fatal(i, j, again, wanted)
				}
			}
		}
		if got := results(g); !reflect.DeepEqual(got, wanted) || !reflect.DeepEqual(g, before) {
			t.Fatal(got, wanted)
		}
	}
}

// R2: with an error all else is zero.
func TestNothingWithErrors(t *testing.T) {
	var d die
	for range 1000 {
		g := d.given()
		switch d.roll(0, 5) {
		case 0:
			g.k.Cap = 0
		case 1:
			g.plan[len(g.plan)-1], g.sales[len(g.sales)-1], g.values[len(g.values)-1] = -1, -1, -1
		case 2:
			g.plan, g.sales, g.values = g.plan[1:], g.sales[1:], g.values[1:]
		case 3:
			g.k.Most = 0
		case 4:
			g.plan = d.near(g.k, g.plan)
		}
		l := results(g)
		for i, x := range l {
			if e, ok := x.(api.Errno); !ok || e == api.OK {
				continue
			}
			for j := i - 1; j >= 0; j-- {
				if _, ok := l[j].(api.Errno); ok {
					break
				}
				want(t, isNothing(l[j]), true, g, i)
			}
		}
	}
}

// isNothing reports whether a result is zero, or an empty list.
func isNothing(x any) bool {
	v := reflect.ValueOf(x)
	if v.Kind() == reflect.Slice {
		return v.Len() == 0
	}
	return v.IsZero()
}

// R3: a nil list and an empty one are the same.
func TestNilAndEmpty(t *testing.T) {
	one := given{k: kind(100, 30, 2, rg(0, 0), nil)}
	two := given{k: one.k, plan: []int{}, sales: []int64{}, values: []int64{}}
	two.k.Sales, two.k.Costs = []api.Range{}, []int64{}
	if a, b := results(one), results(two); !reflect.DeepEqual(a, b) {
		t.Error(a, b)
	}
	one.k.Sales, two.k.Sales = days(1, 2), days(1, 2)
	if a, b := results(one), results(two); !reflect.DeepEqual(a, b) {
		t.Error(a, b)
	}
	one.k, two.k = chapter(100, 2), chapter(100, 2)
	if a, b := results(one), results(two); !reflect.DeepEqual(a, b) {
		t.Error(a, b)
	}
}

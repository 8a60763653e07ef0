package stock_test

import (
	"reflect"
	"slices"
	"testing"

	"forecourt/api"
	"forecourt/stock"
)

// given is arguments for all functions of the package.
type given struct {
	n     api.StockNet
	truth []int64
	set   []int
	flow  int
	shown int64
	off   api.Range
	cans  []api.StockCan
}

// results calls all functions of the package, and returns all that they return.
func results(g given) []any {
	var l []any
	add := func(more ...any) { l = append(l, more...) }
	add(stock.CheckNet(g.n), stock.CheckTruth(g.n, g.truth), checkShort(g.n, g.set), span(g.n, g.flow))
	truth, e := stock.Truth(g.n)
	add(truth, e)
	set, e := stock.Short(g.n)
	add(set, e)
	for _, high := range []bool{false, true} {
		truth, e := stock.Reach(g.n, g.flow, high)
		add(truth, e)
		set, e := stock.Bound(g.n, g.flow, high)
		add(set, e, bound(g.n, g.flow, high, g.set))
	}
	add(meter(g.shown, g.off), worn(g.cans))
	return l
}

// copied returns equal arguments in other memory.
func (g given) copied() given {
	g.n = copied(g.n)
	g.truth, g.set, g.cans = slices.Clone(g.truth), slices.Clone(g.set), slices.Clone(g.cans)
	return g
}

// given returns arguments that are valid, but that the net need not have a truth.
func (d *die) given() given {
	n := d.small()
	for len(n.Flows) == 0 {
		n = d.small()
	}
	g := given{n: n, flow: int(d.roll(0, int64(len(n.Flows)-1))), shown: d.roll(0, 999), off: rg(d.roll(-9, 0), d.roll(0, 9)), cans: d.cans()}
	for _, f := range n.Flows {
		g.truth = append(g.truth, d.roll(f.Litres.Lo, f.Litres.Hi))
	}
	all := sets(n)
	g.set = all[d.roll(0, int64(len(all)-1))]
	return g
}

// P1: with numbers of any size nothing panics, and all calls end.
func TestAnyArguments(t *testing.T) {
	odd := []int64{
		least, least + 1, -100001, -1001, -1000, -101, -100, -1, 0, 1, 2, 12, 13, 20, 40, 41, 100, 101,
		1000, 100000, 100001, 1 << 31, 1 << 32, 1 << 53, most / 1000, most - 1, most,
	}
	var d die
	pick := func() int64 { return odd[d.roll(0, int64(len(odd)-1))] }
	for range 30000 {
		g := d.given()
		f, c := &g.n.Flows[d.roll(0, int64(len(g.n.Flows)-1))], &g.cans[d.roll(0, int64(len(g.cans)-1))]
		numbers := []*int64{&f.Litres.Lo, &f.Litres.Hi, &c.Shown, &c.True, &g.shown, &g.off.Lo, &g.off.Hi, &g.truth[d.roll(0, int64(len(g.truth)-1))]}
		names := []*int{&f.From, &f.To, &g.n.Tanks, &g.flow}
		for i := range g.set {
			names = append(names, &g.set[i])
		}
		for range d.roll(0, 3) {
			*numbers[d.roll(0, int64(len(numbers)-1))] = pick()
			*names[d.roll(0, int64(len(names)-1))] = int(pick())
		}
		results(g)
	}
}

// P1: nets of the greatest size, with all numbers at their ends.
func TestGreatestArguments(t *testing.T) {
	var d die
	for range 300 {
		g := given{n: api.StockNet{Tanks: 12}, set: []int{0, 6, 12}, flow: 39, shown: 100000, off: rg(-100, 100)}
		for range 40 {
			r := rg(100000*d.roll(0, 1)*d.roll(0, 1), 100000)
			g.n.Flows = append(g.n.Flows, d.flow(12, r))
			g.truth = append(g.truth, 100000)
		}
		g.cans = slices.Repeat(cans(100000, 100000), 20)
		results(g)
	}
}

// R4, R5 and R10: no argument is changed, nothing is kept of it, and equal calls return equal results.
func TestArgumentsStay(t *testing.T) {
	var d die
	for range 500 {
		g := d.given()
		behind := api.StockFlow{From: 1, To: 0, Litres: rg(3, 77)}
		g.n.Flows = append(g.n.Flows, behind)[:len(g.n.Flows)]
		other := g.copied()
		wanted := results(other)
		for range 5 {
			if got := results(g); !reflect.DeepEqual(got, wanted) {
				t.Fatal(g, got, wanted)
			}
			results(d.given())
		}
		if !reflect.DeepEqual(g, other) {
			t.Fatal(g, other)
		}
		want(t, g.n.Flows[:len(g.n.Flows)+1][len(g.n.Flows)], behind, g)
	}
}

// R5: what is written into a result, or behind it, is seen nowhere else.
func TestResultsAreNewMemory(t *testing.T) {
	g := given{n: chapter(), set: []int{1}, flow: 1}
	wanted := results(g)
	bad := given{n: lost()}
	wantedBad := results(bad)
	for range 2 {
		for _, l := range [][]any{results(g), results(bad)} {
			for _, x := range l {
				switch list := x.(type) {
				case []int64:
					clear(list[:cap(list)])
				case []int:
					clear(list[:cap(list)])
				}
			}
		}
		if got := results(g); !reflect.DeepEqual(got, wanted) || !reflect.DeepEqual(g.n, chapter()) {
			t.Fatal(got, wanted)
		}
		if got := results(bad); !reflect.DeepEqual(got, wantedBad) || !reflect.DeepEqual(bad.n, lost()) {
			t.Fatal(got, wantedBad)
		}
	}
}

// R3: a nil list and an empty one are the same.
func TestNilAndEmpty(t *testing.T) {
	one := given{n: net(3)}
	two := given{n: api.StockNet{Tanks: 3, Flows: []api.StockFlow{}}, truth: []int64{}, set: []int{}, cans: []api.StockCan{}}
	if a, b := results(one), results(two); !reflect.DeepEqual(a, b) {
		t.Error(a, b)
	}
	one.n, two.n = chapter(), chapter()
	if a, b := results(one), results(two); !reflect.DeepEqual(a, b) {
		t.Error(a, b)
	}
}

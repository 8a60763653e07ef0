package chart_test

import (
	"reflect"
	"testing"

	"forecourt/api"
	"forecourt/chart"
)

// results calls all functions of the package, and returns all that they return.
func results(x api.ChartTank, c []int64, one, two int64, r, s api.Range) []any {
	var l []any
	add := func(more ...any) { l = append(l, more...) }
	add(chart.CheckTank(x), chart.CheckChart(x, c))
	a, b, e := chart.Clash(x)
	add(a, b, e)
	ranges, e := chart.Tight(x)
	add(ranges, e)
	ratio, e := chart.Below(x, c, one)
	add(ratio, e)
	by, e := chart.Metered(x, int(one), int(two))
	add(by, e)
	net, e := chart.Net(x, one, two)
	add(net, e)
	for _, high := range []bool{false, true} {
		end, dips, e := chart.End(x, one, two, high)
		add(end, dips, e)
	}
	dips, e := chart.Dips(x, one)
	add(dips, e)
	common, e := chart.Common(one, r, s)
	add(common, e)
	return l
}

// P1: with numbers of any size nothing panics, and all calls end.
func TestAnyArguments(t *testing.T) {
	odd := []int64{least, least + 1, -1, 0, 1, 2, 49, 50, 51, 400, 4000, 4001, 100000, 100001, 1 << 31, 1 << 32, most - 1, most}
	var d die
	pick := func() int64 { return odd[d.roll(0, int64(len(odd)-1))] }
	for range 30000 {
		x := d.small()
		if d.roll(0, 2) == 0 {
			x.Probe = pick()
		}
		for range d.roll(0, 2) {
			row := &x.Rows[d.roll(0, int64(len(x.Rows)-1))]
			for _, n := range []*int64{&row.Dip, &row.Litres.Lo, &row.Litres.Hi} {
				if d.roll(0, 2) == 0 {
					*n = pick()
				}
			}
		}
		if d.roll(0, 9) == 0 {
			x.Rows = x.Rows[:d.roll(0, 1)]
		}
		c := make([]int64, d.roll(0, 5))
		for i := range c {
			c[i] = pick()
		}
		results(x, c, pick(), pick(), rg(pick(), pick()), rg(pick(), pick()))
	}
}

// R5 and R10: no argument is changed, nothing is kept of it, and equal calls return equal results.
func TestArgumentsStay(t *testing.T) {
	var d die
	for range 300 {
		x := d.charted()
		x.Rows = append(x.Rows, api.ChartRow{Dip: 77, Litres: rg(1, 99)})[:len(x.Rows)]
		c := charts(x)[0]
		first, last := ends(x)
		one, two := d.roll(first, last), d.roll(first, last)
		other, chartBefore := twin(x), append([]int64(nil), c...)
		want := results(other, chartBefore, one, two, rg(-5, 9), rg(3, 8))
		if got := results(x, c, one, two, rg(-5, 9), rg(3, 8)); !reflect.DeepEqual(got, want) {
			t.Fatal(x, got, want)
		}
		if !reflect.DeepEqual(x, twin(x)) || !reflect.DeepEqual(x, other) || !reflect.DeepEqual(c, chartBefore) {
			t.Fatal(x, other, c, chartBefore)
		}
		if behind := x.Rows[:len(x.Rows)+1][len(x.Rows)]; behind.Dip != 77 || behind.Litres != rg(1, 99) {
			t.Fatal(x, behind)
		}
		for range 5 {
			if got := results(x, c, one, two, rg(-5, 9), rg(3, 8)); !reflect.DeepEqual(got, want) {
				t.Fatal(x, got, want)
			}
		}
	}
}

// R5: what is written into a result is seen nowhere else.
func TestResultsAreNewMemory(t *testing.T) {
	x, before := chapterTank(10), chapterTank(10)
	one, _ := chart.Tight(x)
	two, _ := chart.Tight(x)
	for i := range one {
		one[i] = rg(-7, -7)
	}
	if fresh, _ := chart.Tight(x); !reflect.DeepEqual(two, fresh) || !reflect.DeepEqual(x, before) {
		t.Error(two, fresh, x)
	}
	for _, high := range []bool{false, true} {
		one, _, _ := chart.End(x, 50, 300, high)
		two, _, _ := chart.End(x, 50, 300, high)
		for i := range one {
			one[i] = -7
		}
		one = append(one, -7)
		if fresh, _, _ := chart.End(x, 50, 300, high); !reflect.DeepEqual(two, fresh) || !reflect.DeepEqual(x, before) {
			t.Error(high, one, two, fresh, x)
		}
	}
}

// R4: a call of another tank in between changes nothing.
func TestNothingIsKept(t *testing.T) {
	x, good := chapterTank(10), []int64{0, 400, 800, 2000}
	want := results(x, good, 50, 300, rg(0, 9), rg(0, 9))
	var d die
	for range 200 {
		other := d.small()
		results(other, good, d.roll(0, 9), d.roll(0, 9), rg(-9, 9), rg(0, 200))
		if got := results(x, good, 50, 300, rg(0, 9), rg(0, 9)); !reflect.DeepEqual(got, want) {
			t.Fatal(other, got, want)
		}
	}
}

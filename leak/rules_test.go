package leak_test

import (
	"reflect"
	"testing"

	"forecourt/api"
	"forecourt/leak"
)

// given is arguments for all functions of the package.
type given struct {
	l          []api.LeakRead
	line       api.LeakLine
	three      [3]int
	two        [2]int
	number     int64
	rate, most api.Ratio
	parts      int
	tests      []api.LeakTest
	sections   [][]int
}

// results calls all functions of the package, and returns all that they return.
func results(g given) []any {
	var l []any
	add := func(more ...any) { l = append(l, more...) }
	add(leak.CheckReads(g.l), leak.CheckLine(g.l, g.line), leak.CheckClash(g.l, g.three), leak.Certain(g.l, g.most))
	x, e := leak.Line(g.l)
	add(x, e)
	three, e := leak.Clash(g.l)
	add(three, e, ratesOf(g.l), spanOf(g.l, g.number))
	for _, high := range []bool{false, true} {
		two, e := leak.Bounds(g.l, high)
		add(two, e)
		rate, e := leak.CheckBounds(g.l, high, g.two)
		add(rate, e)
	}
	n, e := leak.First(g.l, g.most)
	add(n, e)
	days, e := leak.Days(g.number, g.rate, g.most)
	add(days, e)
	suspects, e := leak.Suspects(g.parts, g.tests)
	add(suspects, e, amount(g.parts, g.tests, int(g.number)))
	at, left, e := leak.Next(g.parts, g.tests, g.sections)
	add(at, left, e)
	return l
}

// copied returns equal arguments in other memory.
func (g given) copied() given {
	g.l = copied(g.l)
	g.tests = append([]api.LeakTest(nil), g.tests...)
	for i := range g.tests {
		g.tests[i].Parts = append([]int(nil), g.tests[i].Parts...)
	}
	g.sections = append([][]int(nil), g.sections...)
	for i := range g.sections {
		g.sections[i] = append([]int(nil), g.sections[i]...)
	}
	return g
}

// given returns arguments that are valid.
func (d *die) given() given {
	g := given{l: d.sheet(), line: d.line(), number: d.roll(0, 30), parts: int(d.roll(1, 12))}
	g.three, g.two = [3]int{0, 1, 2}, [2]int{0, 1}
	g.most = of(d.roll(-25, 25), d.roll(1, 9))
	g.rate = of(g.most.Num+d.roll(1, 9), g.most.Den)
	g.tests = d.tests(g.parts)
	for range d.roll(1, 4) {
		g.sections = append(g.sections, d.section(g.parts))
	}
	return g
}

// P1: with numbers of any size nothing panics, and all calls end.
func TestAnyArguments(t *testing.T) {
	odd := []int64{
		least, least + 1, -1 << 42, -1<<42 - 1, -10000001, -10000000, -1, 0, 1, 2, 12, 13, 40, 60,
		100000, 100001, 10000000, 10000001, 1 << 31, 1 << 32, 1 << 42, 1<<42 + 1, most - 1, most,
	}
	var d die
	for range 20000 {
		g := d.given()
		numbers := []*int64{&g.line.Start, &g.line.Rate, &g.line.Den, &g.number, &g.rate.Num, &g.rate.Den, &g.most.Num, &g.most.Den}
		for i := range g.l {
			numbers = append(numbers, &g.l[i].Time, &g.l[i].Lost.Lo, &g.l[i].Lost.Hi)
		}
		names := []*int{&g.three[0], &g.three[1], &g.three[2], &g.two[0], &g.two[1], &g.parts}
		for i := range g.tests {
			numbers = append(numbers, &g.tests[i].Lost.Lo, &g.tests[i].Lost.Hi)
			names = append(names, &g.tests[i].Parts[0])
		}
		for i := range g.sections {
			names = append(names, &g.sections[i][0])
		}
		for range d.roll(0, 4) {
			*numbers[d.roll(0, int64(len(numbers)-1))] = odd[d.roll(0, int64(len(odd)-1))]
			*names[d.roll(0, int64(len(names)-1))] = int(odd[d.roll(0, int64(len(odd)-1))])
		}
		results(g)
	}
}

// P1: a sheet, tests and sections of the greatest size, with all numbers at their ends.
func TestGreatestArguments(t *testing.T) {
	var d die
	for range 50 {
		g := given{line: api.LeakLine{Start: 1 << 42, Rate: -1 << 42, Den: 100000}, three: [3]int{0, 30, 59}, two: [2]int{0, 59}}
		g.number, g.rate, g.most = d.roll(0, 100000), of(10000000, 1), of(-10000000, 1)
		for i := range int64(60) {
			g.l = append(g.l, api.LeakRead{Time: 100000 - 59 + i, Lost: rg(-10000000, 10000000*d.roll(-1, 1))})
		}
		g.parts = 12
		for range 40 {
			g.tests = append(g.tests, test(-10000000, 10000000, d.section(12)...))
			g.sections = append(g.sections, d.section(12))
		}
		results(g)
	}
}

// R4, R5 and R10: no argument is changed, nothing is kept of it, and equal calls return equal results.
func TestArgumentsStay(t *testing.T) {
	var d die
	for range 300 {
		g := d.given()
		g.l = append(g.l, api.LeakRead{Time: 77, Lost: rg(1, 99)})[:len(g.l)]
		other := g.copied()
		wanted := results(other)
		for range 5 {
			if got := results(g); !reflect.DeepEqual(got, wanted) {
				t.Fatal(g, got, wanted)
			}
			results(d.given())
		}
		if !reflect.DeepEqual(g, other) {
			t.Fatal(g, other)
		}
		if behind := g.l[:len(g.l)+1][len(g.l)]; behind != sheet(77, 1, 99)[0] {
			t.Fatal(g, behind)
		}
	}
}

// R5: what is written into a result is seen nowhere else.
func TestResultsAreNewMemory(t *testing.T) {
	tests := []api.LeakTest{test(3, 9, 0, 1)}
	one, _ := leak.Suspects(4, tests)
	two, _ := leak.Suspects(4, tests)
	one[0], one[1] = -7, -7
	fresh, _ := leak.Suspects(4, tests)
	if !reflect.DeepEqual(two, fresh) || !reflect.DeepEqual(tests, []api.LeakTest{test(3, 9, 0, 1)}) {
		t.Error(one, two, fresh, tests)
	}
}

// R3: a nil list and an empty one are the same.
func TestNilAndEmpty(t *testing.T) {
	g := given{l: chapter(), parts: 3, number: 1}
	h := g
	h.tests, h.sections = []api.LeakTest{}, [][]int{}
	if one, two := results(g), results(h); !reflect.DeepEqual(one, two) {
		t.Error(one, two)
	}
}

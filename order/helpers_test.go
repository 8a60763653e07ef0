package order_test

import (
	"iter"
	"slices"
	"testing"

	"forecourt/api"
	"forecourt/order"
)

const (
	lowest  = -1 << 63
	highest = 1<<63 - 1
)

// of returns a list of loads, list one of litres, costs or values.
func of(x ...int) []int       { return x }
func list(x ...int64) []int64 { return x }

// rg returns a range, days several of them.
func rg(lo, hi int64) api.Range { return api.Range{Lo: lo, Hi: hi} }

func days(ends ...int64) []api.Range {
	var l []api.Range
	for i := 0; i < len(ends); i += 2 {
		l = append(l, rg(ends[i], ends[i+1]))
	}
	return l
}

// kind returns a kind.
func kind(capacity, load int64, most int, start api.Range, sales []api.Range, costs ...int64) api.OrderKind {
	return api.OrderKind{Cap: capacity, Load: load, Most: most, Start: start, Sales: sales, Costs: costs}
}

// chapter returns K of the chapter, with another Cap, and another Most.
func chapter(capacity int64, most int) api.OrderKind {
	return kind(capacity, 30, most, rg(40, 50), days(20, 30, 30, 40, 20, 50), 5, 9, 4)
}

// copied returns a kind in other memory.
func copied(k api.OrderKind) api.OrderKind {
	k.Sales, k.Costs = slices.Clone(k.Sales), slices.Clone(k.Costs)
	return k
}

// changed returns a kind in other memory, with a change.
func changed(k api.OrderKind, change func(k *api.OrderKind)) api.OrderKind {
	k = copied(k)
	change(&k)
	return k
}

// boundsOf returns needs and rooms by the definition: it tries numbers from 0 on.
func boundsOf(k api.OrderKind) []api.Range {
	var l []api.Range
	for day := range k.Sales {
		var least, greatest int64
		for before, sales := range k.Sales[:day+1] {
			greatest += sales.Hi
			if before < day {
				least += sales.Lo
			}
		}
		var b api.Range
		for k.Start.Lo+b.Lo*k.Load < greatest {
			b.Lo++
		}
		for k.Start.Hi+(b.Hi+1)*k.Load-least <= k.Cap {
			b.Hi++
		}
		l = append(l, b)
	}
	return l
}

// truths yields all truths of a kind. The list is used again.
func truths(k api.OrderKind) iter.Seq2[int64, []int64] {
	return func(yield func(int64, []int64) bool) {
		ranges := append(slices.Clone(k.Sales), k.Start)
		var l []int64
		for _, r := range ranges {
			l = append(l, r.Lo)
		}
		for {
			if !yield(l[len(k.Sales)], l[:len(k.Sales)]) {
				return
			}
			i := 0
			for i < len(l) && l[i] == ranges[i].Hi {
				l[i] = ranges[i].Lo
				i++
			}
			if i == len(l) {
				return
			}
			l[i]++
		}
	}
}

// follow returns, by the definition, the litres after the sales of each day, and what is wrong first.
func follow(k api.OrderKind, plan []int, start int64, sales []int64) ([]int64, api.Errno) {
	var l []int64
	for day := range plan {
		var came, sold int64
		for before := range day + 1 {
			came += int64(plan[before]) * k.Load
			if before < day {
				sold += sales[before]
			}
		}
		switch {
		case start+came-sold > k.Cap:
			return nil, api.ErrFull
		case start+came-sold-sales[day] < 0:
			return nil, api.ErrDry
		}
		l = append(l, start+came-sold-sales[day])
	}
	return l, api.OK
}

// isGood reports whether a plan fits all truths, by looking at all of them.
func isGood(k api.OrderKind, plan []int) bool {
	for start, sales := range truths(k) {
		if _, e := follow(k, plan, start, sales); e != api.OK {
			return false
		}
	}
	return true
}

// plans yields all plans of a kind, in lexicographic order. The list is used again.
func plans(k api.OrderKind) iter.Seq[[]int] {
	return func(yield func([]int) bool) {
		plan := make([]int, len(k.Sales))
		for {
			if !yield(plan) {
				return
			}
			i := len(plan) - 1
			for i >= 0 && plan[i] == k.Most {
				plan[i] = 0
				i--
			}
			if i < 0 {
				return
			}
			plan[i]++
		}
	}
}

// cost returns what a plan costs, loads how many loads it has.
func cost(k api.OrderKind, plan []int) int64 {
	var sum int64
	for day, n := range plan {
		sum += int64(n) * k.Costs[day]
	}
	return sum
}

func loads(plan []int) int64 {
	var sum int64
	for _, n := range plan {
		sum += int64(n)
	}
	return sum
}

// isWithin reports whether a plan has, up to each day, the need at least and the room at most.
func isWithin(bounds []api.Range, plan []int) bool {
	for day := range plan {
		up := loads(plan[:day+1])
		if up < bounds[day].Lo || up > bounds[day].Hi {
			return false
		}
	}
	return true
}

// bestOfAll returns the first one of the good plans that cost least, by looking at all plans.
func bestOfAll(k api.OrderKind) ([]int, int64, bool) {
	var best []int
	bounds := boundsOf(k)
	for plan := range plans(k) {
		if isWithin(bounds, plan) && (best == nil || cost(k, plan) < cost(k, best)) {
			best = slices.Clone(plan)
		}
	}
	return best, cost(k, best), best != nil
}

// ahead finds what the days from a day on cost at least, if so many loads come up to it.
type ahead struct {
	k      api.OrderKind
	bounds []api.Range
	known  map[[2]int]int64
}

// from returns the least cost, or the greatest number if there is none.
func (a *ahead) from(day, before int) int64 {
	if day == len(a.k.Sales) {
		return 0
	}
	key := [2]int{day, before}
	if n, ok := a.known[key]; ok {
		return n
	}
	best := int64(highest)
	for n := range a.k.Most + 1 {
		up := int64(before + n)
		if up < a.bounds[day].Lo || up > a.bounds[day].Hi {
			continue
		}
		if rest := a.from(day+1, before+n); rest != highest {
			best = min(best, rest+int64(n)*a.k.Costs[day])
		}
	}
	a.known[key] = best
	return best
}

// bestFromTheEnd returns the first one of the good plans that cost least. It looks from the end what all
// numbers of loads cost, and then takes the fewest loads day by day.
func bestFromTheEnd(k api.OrderKind) ([]int, int64, bool) {
	a := &ahead{k, boundsOf(k), map[[2]int]int64{}}
	best := a.from(0, 0)
	if best == highest {
		return nil, 0, false
	}
	var plan []int
	rest, up := best, 0
	for day := range k.Sales {
		n := 0
		for {
			next := a.from(day+1, up+n)
			in := int64(up+n) >= a.bounds[day].Lo && int64(up+n) <= a.bounds[day].Hi
			if in && next != highest && next+int64(n)*k.Costs[day] == rest {
				rest = next
				break
			}
			n++
		}
		plan, up = append(plan, n), up+n
	}
	return plan, best, true
}

// clashOf returns the first two days that contradict each other, by the definition.
func clashOf(k api.OrderKind) (int, int, bool) {
	bounds := boundsOf(k)
	for one := -1; one < len(bounds); one++ {
		for two := range bounds {
			room := int64(0)
			if one >= 0 {
				room = bounds[one].Hi
			}
			if two >= one && bounds[two].Lo > room+int64(k.Most)*int64(two-one) {
				return one, two, true
			}
		}
	}
	return 0, 0, false
}

// boundOf returns the bound of values by the definition.
func boundOf(k api.OrderKind, values []int64) int64 {
	var sum int64
	for day, b := range boundsOf(k) {
		here, next := values[day], int64(0)
		if day+1 < len(values) {
			next = values[day+1]
		}
		if here > next {
			sum += b.Lo * (here - next)
		}
		if next > here {
			sum -= b.Hi * (next - here)
		}
		if here > k.Costs[day] {
			sum -= int64(k.Most) * (here - k.Costs[day])
		}
	}
	return sum
}

// The following return what functions return that are to return no error.

func bounds(t *testing.T, k api.OrderKind) []api.Range {
	t.Helper()
	l, e := order.Bounds(k)
	want(t, e, api.OK, k)
	return l
}

func best(t *testing.T, k api.OrderKind) ([]int, int64) {
	t.Helper()
	plan, n, e := order.Best(k)
	want(t, e, api.OK, k)
	return plan, n
}

func bound(t *testing.T, k api.OrderKind, values []int64) int64 {
	t.Helper()
	n, e := order.CheckValues(k, values)
	want(t, e, api.OK, k, values)
	return n
}

func valuesOf(t *testing.T, k api.OrderKind) []int64 {
	t.Helper()
	values, e := order.Values(k)
	want(t, e, api.OK, k)
	return values
}

// die gives numbers in a fixed order that looks like none.
type die uint64

func (d *die) roll(lo, hi int64) int64 {
	*d = *d*6364136223846793005 + 1442695040888963407
	return lo + int64(uint64(*d>>33)%uint64(hi-lo+1))
}

func (d *die) index(n int) int { return int(d.roll(0, int64(n)-1)) }

// in returns a range of at most so much within another one.
func (d *die) in(r api.Range, wide int64) api.Range {
	lo := d.roll(r.Lo, r.Hi)
	return rg(lo, d.roll(lo, min(r.Hi, lo+wide)))
}

// kind returns a kind of so many days, with costs up to a greatest one.
func (d *die) kind(days, most int, load, dear int64) api.OrderKind {
	k := api.OrderKind{Load: load, Most: most}
	k.Cap = d.roll(min(load, api.MaxOrderLitres), min(load*d.roll(1, 12), api.MaxOrderLitres))
	wide := k.Cap / int64(days) / list(1, 3, 9, 100)[d.index(4)]
	k.Start = d.in(rg(0, k.Cap), wide)
	among := d.sales(min(load*int64(most), k.Cap), k.Cap)
	for range days {
		k.Sales = append(k.Sales, d.in(among(), wide))
		k.Costs = append(k.Costs, d.roll(0, dear))
	}
	return k
}

// sales returns a function that returns among which sales those of a day are: up to so many as can come in
// a day, about so many, or so many and more on some days, and none on others.
func (d *die) sales(come, capacity int64) func() api.Range {
	switch d.roll(0, 2) {
	case 0:
		return func() api.Range { return rg(0, d.roll(0, come)) }
	case 1:
		return func() api.Range { return rg(come/2, min(come*5/4, capacity)) }
	}
	return func() api.Range {
		if d.roll(0, 1) == 0 {
			return rg(0, 0)
		}
		return rg(come, min(come*2, capacity))
	}
}

// small returns a kind that is small enough to look at all plans and truths, with few different costs.
func (d *die) small() api.OrderKind {
	return d.kind(int(d.roll(1, 3)), int(d.roll(0, 3)), d.roll(1, 6), d.roll(0, 9))
}

// middle returns a kind that is small enough to look at all plans, but not at all truths.
func (d *die) middle() api.OrderKind {
	return d.kind(int(d.roll(1, 5)), int(d.roll(0, 3)), d.roll(1, 2000), d.roll(0, 9))
}

// great returns a kind of up to the greatest size.
func (d *die) great() api.OrderKind {
	return d.kind(int(d.roll(1, 20)), int(d.roll(0, 10)), d.roll(1, list(50, 2000, 20000)[d.index(3)]), list(3, 20, api.MaxOrderCost)[d.index(3)])
}

// any returns a kind of one of these sizes.
func (d *die) any() api.OrderKind {
	switch d.roll(0, 2) {
	case 0:
		return d.small()
	case 1:
		return d.middle()
	}
	return d.great()
}

// good returns such a kind that has a good plan.
func (d *die) good() api.OrderKind {
	for {
		k := d.any()
		if _, _, ok := bestFromTheEnd(k); ok {
			return k
		}
	}
}

// plan returns a plan of a kind.
func (d *die) plan(k api.OrderKind) []int {
	var plan []int
	for range k.Sales {
		plan = append(plan, int(d.roll(0, int64(k.Most))))
	}
	return plan
}

// near returns a good plan, with a few loads more or fewer that may make it one that is not good.
func (d *die) near(k api.OrderKind, plan []int) []int {
	plan = slices.Clone(plan)
	for range d.roll(0, 3) {
		i := d.index(len(plan))
		plan[i] = int(d.roll(int64(max(plan[i]-1, 0)), int64(min(plan[i]+1, k.Most))))
	}
	return plan
}

// truth returns a truth of a kind, often with numbers at the ends of their ranges.
func (d *die) truth(k api.OrderKind) (int64, []int64) {
	pick := func(r api.Range) int64 { return list(r.Lo, r.Hi, d.roll(r.Lo, r.Hi))[d.index(3)] }
	var sales []int64
	for _, r := range k.Sales {
		sales = append(sales, pick(r))
	}
	return pick(k.Start), sales
}

// values returns values of a kind: any ones, or costs and numbers near to them.
func (d *die) values(k api.OrderKind) []int64 {
	var values []int64
	any := d.roll(0, 2) == 0
	for range k.Costs {
		n := k.Costs[d.index(len(k.Costs))] + d.roll(-1, 1)
		if any {
			n = d.roll(0, api.MaxOrderCost)
		}
		values = append(values, min(max(n, 0), api.MaxOrderCost))
	}
	return values
}

// want fails the test if a result is not as it is to be.
func want[T comparable](t *testing.T, got, wanted T, about ...any) {
	t.Helper()
	if got != wanted {
		t.Fatalf("%v: got %v, want %v", about, got, wanted)
	}
}

// wantList fails the test if a list is not as it is to be.
func wantList[T comparable](t *testing.T, got, wanted []T, about ...any) {
	t.Helper()
	if !slices.Equal(got, wanted) {
		t.Fatalf("%v: got %v, want %v", about, got, wanted)
	}
}

package order

import (
	"iter"
	"slices"

	"forecourt/api"
)

// state is so many loads up to a day. The day -1 is the beginning.
type state struct{ day, loads int }

// cell is whether so many loads can come up to a day, and what they cost at least.
type cell struct {
	can  bool
	cost int64
}

// row is the cells of a day, by numbers of loads. A row that cannot be has no loads that can come.
type row [api.MaxOrderDays*api.MaxOrderLoads + 1]cell

// planner is a station with the rows of a day and of the one before it.
type planner struct {
	*station
	rows [2]row
	came map[state]int // by how many loads of its day one came to a state, at least cost
}

// plannerOf returns a station of which no day is planned.
func plannerOf(s *station) *planner {
	p := &planner{station: s, came: map[state]int{}}
	p.row(-1)[0].can = true
	return p
}

// row returns the row of a day: the next day but one has the same memory.
func (p *planner) row(day int) *row { return &p.rows[(day+1)%2] }

// allowed yields the numbers of loads up to a day that the day allows, the least one first.
func (p *planner) allowed(day int) iter.Seq[int] {
	fault := p.asked(day)
	return func(yield func(int) bool) {
		for loads := range p.Most*(day+1) + 1 {
			if fault(loads) == api.OK && !yield(loads) {
				return
			}
		}
	}
}

// steps yields the numbers of loads of its day by which one can come to a state, the greatest one first.
func (p *planner) steps(to state) iter.Seq[int] {
	return func(yield func(int) bool) {
		for loads := min(p.Most, to.loads); loads >= 0; loads-- {
			if p.row(to.day - 1)[to.loads-loads].can && !yield(loads) {
				return
			}
		}
	}
}

// by returns a function that tells what the loads of a state cost at least, by those of its day.
func (p *planner) by(to state) func(loads int) int64 {
	return func(loads int) int64 {
		return p.row(to.day - 1)[to.loads-loads].cost + int64(loads)*p.Costs[to.day]
	}
}

// fill computes the row of a day from the one before it, and reports whether it can be.
func (p *planner) fill(day int) bool {
	var cannot row
	now := p.row(day)
	clear(now[:])
	for loads := range p.allowed(day) {
		at := state{day, loads}
		if today, cost, found := least(p.steps(at), p.by(at)); found {
			now[loads] = cell{true, cost}
			p.came[at] = today
		}
	}
	return *now != cannot
}

// last returns the row of the last day.
func (p *planner) last() *row { return p.row(len(p.Costs) - 1) }

// ends yields the numbers of loads that can come up to the last day, the least one first.
func (p *planner) ends(yield func(int) bool) {
	for loads, c := range p.last() {
		if c.can && !yield(loads) {
			return
		}
	}
}

// total returns what so many loads up to the last day cost at least.
func (p *planner) total(loads int) int64 { return p.last()[loads].cost }

// take takes out by how many loads one came to a state.
func (p *planner) take(at state) int {
	loads := p.came[at]
	delete(p.came, at)
	return loads
}

// back returns the plan by which one came to so many loads up to the last day. It grows from its
// end in memory for the most days, of which the third index leaves it as many as there are.
func (p *planner) back(loads int) []int {
	var memory [api.MaxOrderDays]int
	days := len(p.Costs)
	grown := memory[:0:days]
	for day := days - 1; day >= 0; day-- {
		today := p.take(state{day, loads})
		grown = append(grown, today)
		loads -= today
	}
	slices.Reverse(grown)
	plan := make([]int, days)
	copy(plan, grown)
	return plan
}

// best returns the best plan, and whether there is a good one.
//
// Of two plans of least cost, the lesser numbers of loads up to each day are a good plan, and so
// are the greater ones; together these cost as much as the two, so each of them costs least. So
// one plan of least cost has the fewest loads up to each day, and is the first one in lexicographic
// order. From the end it is found by always taking, of equal costs, the fewest loads up to a day.
func (p *planner) best() ([]int, bool) {
	for day := range p.Costs {
		if !p.fill(day) {
			return nil, false
		}
	}
	loads, _, _ := least(p.ends, p.total)
	return p.back(loads), true
}

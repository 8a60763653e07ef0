package hose_test

import (
	"slices"
	"testing"

	"forecourt/api"
	"forecourt/hose"
)

const (
	least = -1 << 63
	most  = 1<<63 - 1
)

// of returns a list of numbers, litres a list of litres.
func of(x ...int) []int         { return x }
func litres(x ...int64) []int64 { return x }

// pairs returns pairs of steps.
func pairs(x ...int) [][2]int {
	var l [][2]int
	for i := 0; i < len(x); i += 2 {
		l = append(l, [2]int{x[i], x[i+1]})
	}
	return l
}

// proof returns pairs with litres: Gone, Come and Litres of each.
func proof(x ...int64) []api.HosePair {
	var l []api.HosePair
	for i := 0; i < len(x); i += 3 {
		l = append(l, api.HosePair{Gone: int(x[i]), Come: int(x[i+1]), Litres: x[i+2]})
	}
	return l
}

// changes returns a job of one tank, with steps that change it.
func changes(start, most int64, before [][2]int, x ...int64) api.HoseJob {
	j := api.HoseJob{Start: litres(start), Caps: litres(most), Before: before}
	for _, n := range x {
		j.Steps = append(j.Steps, api.HoseStep{Change: n})
	}
	return j
}

// filled returns a job with hoses and kinds of the steps, and no litres.
func filled(before [][2]int, x ...int) api.HoseJob {
	j := changes(0, 9, before)
	for i := 0; i < len(x); i += 2 {
		j.Steps = append(j.Steps, api.HoseStep{Hose: x[i], Kind: x[i+1]})
	}
	return j
}

// chapter returns J of the chapter.
func chapter() api.HoseJob {
	j := changes(20, 70, pairs(0, 1), -15, 50, -30, 20)
	j.Steps[1].Hose, j.Steps[1].Kind = 1, 1
	j.Steps[3].Hose, j.Steps[3].Kind = 1, 2
	return j
}

// copied returns an equal job in other memory.
func copied(j api.HoseJob) api.HoseJob {
	return api.HoseJob{Start: slices.Clone(j.Start), Caps: slices.Clone(j.Caps), Steps: slices.Clone(j.Steps), Before: slices.Clone(j.Before)}
}

// isOrder reports whether a list of all steps is an order, by the definition.
func isOrder(j api.HoseJob, order []int) bool {
	for _, p := range j.Before {
		if slices.Index(order, p[0]) > slices.Index(order, p[1]) {
			return false
		}
	}
	return true
}

// lists returns all lists of n steps, each once, in lexicographic order.
func lists(n int) [][]int {
	grown := [][]int{nil}
	for range n {
		var longer [][]int
		for _, l := range grown {
			for step := range n {
				if !slices.Contains(l, step) {
					longer = append(longer, append(slices.Clone(l), step))
				}
			}
		}
		grown = longer
	}
	return grown
}

// orders returns all orders of a small job, in lexicographic order, by the definition.
func orders(j api.HoseJob) [][]int {
	return slices.DeleteFunc(lists(len(j.Steps)), func(l []int) bool { return !isOrder(j, l) })
}

// sets returns all strictly increasing lists of steps.
func sets(j api.HoseJob) [][]int {
	var all [][]int
	for n := range 1 << len(j.Steps) {
		var l []int
		for step := range j.Steps {
			if n>>step&1 == 1 {
				l = append(l, step)
			}
		}
		all = append(all, l)
	}
	return all
}

// isState reports whether a strictly increasing list of steps is a state, by the definition.
func isState(j api.HoseJob, state []int) bool {
	for _, p := range j.Before {
		if slices.Contains(state, p[1]) && !slices.Contains(state, p[0]) {
			return false
		}
	}
	return true
}

// states returns all states, by the definition.
func states(j api.HoseJob) [][]int {
	return slices.DeleteFunc(sets(j), func(l []int) bool { return !isState(j, l) })
}

// level returns the level of a tank after some steps, by the definition.
func level(j api.HoseJob, tank int, steps []int) int64 {
	n := j.Start[tank]
	for _, step := range steps {
		if j.Steps[step].Tank == tank {
			n += j.Steps[step].Change
		}
	}
	return n
}

// must reports whether a step comes before another one in all orders.
func must(orders [][]int, one, two int) bool {
	for _, order := range orders {
		if slices.Index(order, one) >= slices.Index(order, two) {
			return false
		}
	}
	return true
}

// meets reports whether two steps meet in an order, by the definition.
func meets(j api.HoseJob, order []int, two [2]int) bool {
	one, other := j.Steps[two[0]], j.Steps[two[1]]
	if one.Hose == 0 || one.Hose != other.Hose || one.Kind == other.Kind || one.Kind == 0 || other.Kind == 0 {
		return false
	}
	from, to := slices.Index(order, two[0]), slices.Index(order, two[1])
	return from < to && !slices.ContainsFunc(order[from+1:to], func(step int) bool { return j.Steps[step].Hose == one.Hose })
}

// canMeet reports whether two steps meet in one of the orders.
func canMeet(j api.HoseJob, orders [][]int, two [2]int) bool {
	return slices.ContainsFunc(orders, func(order []int) bool { return meets(j, order, two) })
}

// twos returns all lists of two steps, in lexicographic order.
func twos(j api.HoseJob) [][2]int {
	var l [][2]int
	for one := range j.Steps {
		for two := range j.Steps {
			l = append(l, [2]int{one, two})
		}
	}
	return l
}

// isPlan reports whether an order is a plan, by the definition.
func isPlan(j api.HoseJob, order []int) bool {
	for i, step := range order {
		tank := j.Steps[step].Tank
		if n := level(j, tank, order[:i+1]); n < 0 || n > j.Caps[tank] {
			return false
		}
	}
	return true
}

// number is what a function returns that returns a number.
type number struct {
	n int64
	e api.Errno
}

func count(j api.HoseJob) number {
	n, e := hose.Count(j)
	return number{n, e}
}

func highest(j api.HoseJob, tank int) number {
	n, _, e := hose.Highest(j, tank)
	return number{n, e}
}

func lowest(j api.HoseJob, tank int) number {
	n, _, e := hose.Lowest(j, tank)
	return number{n, e}
}

func bound(j api.HoseJob, tank int, l []api.HosePair) number {
	n, e := hose.CheckPairs(j, tank, l)
	return number{n, e}
}

// die gives numbers in a fixed order that looks like none.
type die uint64

func (d *die) roll(lo, hi int64) int64 {
	*d = *d*6364136223846793005 + 1442695040888963407
	return lo + int64(uint64(*d>>33)%uint64(hi-lo+1))
}

func (d *die) index(n int) int { return int(d.roll(0, int64(n)-1)) }

// shuffled returns n steps, each once.
func (d *die) shuffled(n int) []int {
	var l []int
	for step := range n {
		l = slices.Insert(l, d.index(len(l)+1), step)
	}
	return l
}

// job returns a job with so many tanks and steps, at most so many pairs, and changes of at
// most so many litres, and an order of it.
func (d *die) job(tanks, steps, before int, most int64) (api.HoseJob, []int) {
	var j api.HoseJob
	for range tanks {
		j.Caps = append(j.Caps, d.roll(0, 3*most))
		j.Start = append(j.Start, d.roll(0, j.Caps[len(j.Caps)-1]))
	}
	for range steps {
		s := api.HoseStep{Tank: d.index(tanks), Change: d.roll(-most, most), Hose: int(d.roll(0, 2))}
		if s.Hose > 0 {
			s.Kind = int(d.roll(0, 3))
		}
		j.Steps = append(j.Steps, s)
	}
	order := d.shuffled(steps)
	for range before {
		if one, two := d.index(max(1, steps)), d.index(max(1, steps)); one < two {
			j.Before = append(j.Before, [2]int{order[one], order[two]})
		}
	}
	return j, order
}

// small returns a job that is small enough to look at all its orders.
func (d *die) small() api.HoseJob {
	j, _ := d.job(int(d.roll(1, 3)), int(d.roll(0, 6)), int(d.roll(0, 10)), 9)
	return j
}

// great returns a job of the greatest size, but for the number of pairs, and an order of it.
func (d *die) great() (api.HoseJob, []int) {
	return d.job(int(d.roll(1, 4)), 12, int(d.roll(0, 60)), 1000)
}

// want fails the test if a result is not as it is to be.
func want[T comparable](t *testing.T, got, wanted T, about ...any) {
	t.Helper()
	if got != wanted {
		t.Fatalf("%v: got %v, want %v", about, got, wanted)
	}
}

// wantList fails the test if a list is not as it is to be.
func wantList[T comparable](t *testing.T, got, wanted []T, about ...any) {
	t.Helper()
	if !slices.Equal(got, wanted) {
		t.Fatalf("%v: got %v, want %v", about, got, wanted)
	}
}

package plate

import "iter"

// step is where a match has come to: so many letters of each plate are in its pairs.
type step struct{ one, two int }

// way is pairs that lead to a step, and what they cost.
type way struct {
	pairs [][2]int
	cost  int64
}

// ends returns the last step of a match of two plates.
func ends(one, two string) step { return step{len(one), len(two)} }

// next yields the pairs by which a match can go on from a step to its last one.
func (s step) next(last step) iter.Seq[[2]int] {
	return func(yield func([2]int) bool) {
		for _, pair := range [...][2]int{{s.one, s.two}, {s.one, -1}, {-1, s.two}} {
			if pair[0] < last.one && pair[1] < last.two && !yield(pair) {
				return
			}
		}
	}
}

// after returns the step to which a pair leads.
func (s step) after(pair [2]int) step {
	if pair[0] >= 0 {
		s.one++
	}
	if pair[1] >= 0 {
		s.two++
	}
	return s
}

// leads reports whether a match can go on by a pair.
func (s step) leads(last step, pair [2]int) bool {
	for other := range s.next(last) {
		if other == pair {
			return true
		}
	}
	return false
}

// isMatch reports whether pairs are a match of two plates.
func isMatch(one, two string, match [][2]int) bool {
	var at step
	for _, pair := range match {
		if !at.leads(ends(one, two), pair) {
			return false
		}
		at = at.after(pair)
	}
	return at == ends(one, two)
}

// pair returns what a pair of a match costs.
func (c *camera) pair(one, two string, pair [2]int) int64 {
	if pair[0] < 0 || pair[1] < 0 {
		return c.Skip
	}
	return c.letter(one[pair[0]], two[pair[1]])
}

// sum returns what a match costs.
func (c *camera) sum(one, two string, match [][2]int) int64 {
	sum := int64(0)
	for _, pair := range match {
		sum += c.pair(one, two, pair)
	}
	return sum
}

// longer returns a way with one more pair. The third index makes it grow in memory of its own,
// as several ways go on from one.
func (w way) longer(pair [2]int, cost int64) way {
	return way{append(w.pairs[:len(w.pairs):len(w.pairs)], pair), w.cost + cost}
}

// steps yields all steps up to the last one, none before another one from which it goes on.
func steps(last step) iter.Seq[step] {
	return func(yield func(step) bool) {
		for one := range last.one + 1 {
			for two := range last.two + 1 {
				if !yield(step{one, two}) {
					return
				}
			}
		}
	}
}

// match returns a match of two plates that costs their distance.
func (c *camera) match(one, two string) [][2]int {
	last := ends(one, two)
	ahead := map[step]way{{}: {}}
	for at := range steps(last) {
		if at == last {
			break
		}
		here := ahead[at]
		delete(ahead, at)
		for pair := range at.next(last) {
			cost := c.pair(one, two, pair)
			other, found := ahead[at.after(pair)]
			if !found || here.cost+cost < other.cost {
				ahead[at.after(pair)] = here.longer(pair, cost)
			}
		}
	}
	match := make([][2]int, len(ahead[last].pairs))
	copy(match, ahead[last].pairs)
	return match
}

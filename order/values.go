package order

import (
	"iter"
	"slices"
)

// part returns the part of a day in the bound of values, by what a load is worth on this day and on the next one.
func (s *station) part(day int, now, next int64) int64 {
	b := s.bounds[day]
	return b.Lo*max(now-next, 0) - b.Hi*max(next-now, 0) - int64(s.Most)*max(now-s.Costs[day], 0)
}

// bound returns the bound of values.
func (s *station) bound(values []int64) int64 {
	sum, next := int64(0), int64(0)
	for day, now := range slices.Backward(values) {
		sum += s.part(day, now, next)
		next = now
	}
	return sum
}

// offer is what loads are worth from a day on, the last day first, and their part of the bound.
type offer struct {
	values []int64
	bound  int64
}

// first returns what a load is worth on the first day of an offer. Behind the last day it is worth 0.
func (o offer) first() int64 {
	if len(o.values) == 0 {
		return 0
	}
	return o.values[len(o.values)-1]
}

// lack is the less, the greater the bound of an offer is.
func (o offer) lack() int64 { return -o.bound }

// earlier returns an offer from a day on that goes on with one from the next day on. The third
// index makes it grow in memory of its own, as several offers go on with one.
func (s *station) earlier(day int, now int64, rest offer) offer {
	n := len(rest.values)
	return offer{append(rest.values[:n:n], now), rest.bound + s.part(day, now, rest.first())}
}

// worths yields what loads can be worth in some values with the greatest bound, if there is a good
// plan. To be worth more than all costs does not help: what is above them adds to the bound at most
// what it comes to for the loads of a good plan, and takes off what it comes to for Most loads. Up to
// there the bound bends only where a load is worth what it costs, or as much as on the next day; so
// it is greatest also where each value is 0 or the cost of some day.
func (s *station) worths(yield func(int64) bool) {
	if !yield(0) {
		return
	}
	for _, cost := range s.Costs {
		if !yield(cost) {
			return
		}
	}
}

// longer yields, for offers from the next day on, those from a day on that begin with a worth.
func (s *station) longer(day int, now int64, rests []offer) iter.Seq[offer] {
	return func(yield func(offer) bool) {
		for _, rest := range rests {
			if !yield(s.earlier(day, now, rest)) {
				return
			}
		}
	}
}

// values returns values with the greatest bound. From each day on it keeps the best offer for each worth.
func (s *station) values() []int64 {
	offers := []offer{{}}
	for day := range slices.Backward(s.Costs) {
		var next []offer
		for now := range s.worths {
			best, _, _ := least(s.longer(day, now, offers), offer.lack)
			next = append(next, best)
		}
		offers = next
	}
	best, _, _ := least(slices.Values(offers), offer.lack)
	values := make([]int64, len(best.values))
	copy(values, best.values)
	slices.Reverse(values)
	return values
}

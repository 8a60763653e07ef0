package order

import "forecourt/api"

// station is a kind with its bounds: the need of each day as Lo, its room as Hi.
type station struct {
	api.OrderKind
	bounds []api.Range
}

// stationOf returns a valid kind with its bounds.
func stationOf(k api.OrderKind) *station {
	s := &station{OrderKind: k}
	least, greatest := int64(0), int64(0)
	for _, sales := range k.Sales {
		greatest += sales.Hi
		missing := max(greatest-k.Start.Lo, 0)
		free := k.Cap - k.Start.Hi + least
		s.bounds = append(s.bounds, api.Range{Lo: (missing + k.Load - 1) / k.Load, Hi: free / k.Load})
		least += sales.Lo
	}
	return s
}

// asked returns a function that tells what is wrong with so many loads up to a day.
func (s *station) asked(day int) func(loads int) api.Errno {
	return func(loads int) api.Errno {
		switch {
		case int64(loads) > s.bounds[day].Hi:
			return api.ErrFull
		case int64(loads) < s.bounds[day].Lo:
			return api.ErrDry
		}
		return api.OK
	}
}

// fault returns what is wrong on the first day on which a plan is not good.
func (s *station) fault(plan []int) api.Errno {
	sum := 0
	for day, loads := range plan {
		sum += loads
		if e := s.asked(day)(sum); e != api.OK {
			return e
		}
	}
	return api.OK
}

// cost returns what a plan costs.
func (s *station) cost(plan []int) int64 {
	sum := int64(0)
	for day, loads := range plan {
		sum += int64(loads) * s.Costs[day]
	}
	return sum
}

// room returns the room of a day, or of the beginning.
func (s *station) room(day int) int64 {
	if day < 0 {
		return 0
	}
	return s.bounds[day].Hi
}

// contradict reports whether two days contradict each other.
func (s *station) contradict(one, two int) bool {
	return s.bounds[two].Lo > s.room(one)+int64(s.Most*(two-one))
}

// clash returns the first two days that contradict each other, and whether there are any.
func (s *station) clash() (days [2]int, found bool) {
search:
	for one := -1; one < len(s.bounds); one++ {
		for two := max(one, 0); two < len(s.bounds); two++ {
			if s.contradict(one, two) {
				days, found = [2]int{one, two}, true
				break search
			}
		}
	}
	return days, found
}

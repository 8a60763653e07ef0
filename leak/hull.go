package leak

import "forecourt/api"

// mark is what is lost by a time.
type mark struct{ time, lost int64 }

// under reports whether m is below the line through two marks, one of which is before it, and the other one behind it.
func (m mark) under(one, two mark) bool {
	return (m.lost-one.lost)*(two.time-one.time) < (two.lost-one.lost)*(m.time-one.time)
}

// turned returns the mark on a sheet that is turned round.
func (m mark) turned() mark { return mark{m.time, -m.lost} }

// upper and lower return the ends of a reading.
func upper(r api.LeakRead) mark { return mark{r.Time, r.Lost.Hi} }
func lower(r api.LeakRead) mark { return mark{r.Time, r.Lost.Lo} }

// point is an end of the reading of a name.
type point struct {
	mark
	name int
}

// hull is those ends of readings, in the order of time, that alone decide which
// lines are above none of all these ends: each other end is on or above the line
// through the two that are beside it.
type hull []point

// hullOf returns the hull of an end of all readings.
func hullOf(l []api.LeakRead, end func(api.LeakRead) mark) hull {
	var room [api.MaxLeakReads]point
	h := hull(room[:0:len(l)])
	for name, r := range l {
		p := point{end(r), name}
		for len(h) > 1 && !h[len(h)-1].under(h[len(h)-2].mark, p.mark) {
			h = h[:len(h)-1]
		}
		h = append(h, p)
	}
	taken := make(hull, len(h))
	copy(taken, h)
	return taken
}

// points yields the points of a hull.
func (h hull) points(yield func(point) bool) {
	for _, p := range h {
		if !yield(p) {
			return
		}
	}
}

// edges yields the points of a hull that are beside each other.
func (h hull) edges(yield func(one, two point) bool) {
	for i, p := range h {
		if p == h[len(h)-1] || !yield(p, h[i+1]) {
			return
		}
	}
}

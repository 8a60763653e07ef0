package taint_test

import (
	"slices"
	"testing"

	"forecourt/api"
	"forecourt/taint"
)

const (
	least = -1 << 63
	most  = 1<<63 - 1
	never = api.TaintNever
)

// of returns a list of numbers, times a list of times.
func of(x ...int) []int        { return x }
func times(x ...int64) []int64 { return x }

// move returns a move from one vessel into another one.
func move(from, to int, lo, hi int64) api.TaintMove {
	return api.TaintMove{From: from, To: to, Time: api.Range{Lo: lo, Hi: hi}}
}

// yard returns a yard with moves.
func yard(vessels int, moves ...api.TaintMove) api.TaintYard {
	return api.TaintYard{Vessels: vessels, Moves: moves}
}

// at returns a start.
func at(vessel int, time int64) api.TaintStart { return api.TaintStart{Vessel: vessel, Time: time} }

// chapter returns Y of the chapter.
func chapter() api.TaintYard {
	return yard(6, move(0, 1, 10, 12), move(1, 3, 8, 9), move(1, 4, 11, 20), move(1, 2, 15, 18), move(2, 5, 16, 30))
}

// fork returns a yard with two ways from 0 to 3, both of which lead over 1.
func fork() api.TaintYard {
	return yard(5, move(0, 1, 1, 2), move(1, 2, 3, 4), move(2, 3, 5, 6), move(1, 4, 3, 4), move(4, 3, 7, 8))
}

// changed returns a yard in other memory, with a change.
func changed(y api.TaintYard, change func(y *api.TaintYard)) api.TaintYard {
	y.Moves = slices.Clone(y.Moves)
	change(&y)
	return y
}

// without returns a yard without some moves.
func without(y api.TaintYard, left func(m api.TaintMove) bool) api.TaintYard {
	return changed(y, func(y *api.TaintYard) { y.Moves = slices.DeleteFunc(y.Moves, left) })
}

// isTrail reports whether moves are a trail, or a sure trail, by the definition.
func isTrail(y api.TaintYard, s api.TaintStart, vessel int, trail []int, sure bool) bool {
	at, greatest, ended := s.Vessel, s.Time, s.Time
	for _, name := range trail {
		m := y.Moves[name]
		greatest = max(greatest, m.Time.Lo)
		if m.From != at || greatest > m.Time.Hi || sure && ended > m.Time.Lo {
			return false
		}
		at, ended = m.To, m.Time.Hi
	}
	return at == vessel
}

// walks returns all lists of up to n moves that are a trail, or a sure one, to the vessel
// to which the last one goes.
func walks(y api.TaintYard, s api.TaintStart, n int, sure bool) [][]int {
	all := [][]int{nil}
	for i := 0; i < len(all); i++ {
		for name := range y.Moves {
			longer := append(slices.Clone(all[i]), name)
			if len(longer) <= n && isTrail(y, s, y.Moves[name].To, longer, sure) {
				all = append(all, longer)
			}
		}
	}
	return all
}

// end returns the vessel to which a walk leads.
func end(y api.TaintYard, s api.TaintStart, walk []int) int {
	if len(walk) == 0 {
		return s.Vessel
	}
	return y.Moves[walk[len(walk)-1]].To
}

// ends returns the vessels to which walks lead, increasing.
func ends(y api.TaintYard, s api.TaintStart, walks [][]int) []int {
	var l []int
	for _, walk := range walks {
		l = append(l, end(y, s, walk))
	}
	slices.Sort(l)
	return slices.Compact(l)
}

// timesOf yields all times of a yard. The list is used again.
func timesOf(y api.TaintYard) func(func([]int64) bool) {
	return func(yield func([]int64) bool) {
		l := make([]int64, len(y.Moves))
		for i, m := range y.Moves {
			l[i] = m.Time.Lo
		}
		for {
			if !yield(l) {
				return
			}
			i := 0
			for i < len(l) && l[i] == y.Moves[i].Time.Hi {
				l[i] = y.Moves[i].Time.Lo
				i++
			}
			if i == len(l) {
				return
			}
			l[i]++
		}
	}
}

// spread returns, by the definition, from when on taint is in each vessel by some times,
// and which moves carry it.
func spread(y api.TaintYard, s api.TaintStart, times []int64) ([]int64, []int) {
	in := slices.Repeat([]int64{never}, y.Vessels)
	in[s.Vessel] = s.Time
	for again := true; again; {
		again = false
		for i, m := range y.Moves {
			if in[m.From] <= times[i] && times[i] < in[m.To] {
				in[m.To], again = times[i], true
			}
		}
	}
	var carried []int
	for i, m := range y.Moves {
		if in[m.From] <= times[i] {
			carried = append(carried, i)
		}
	}
	return in, carried
}

// right reports whether arrivals are right, by the definition.
func right(y api.TaintYard, s api.TaintStart, l []int64) bool {
	for _, m := range y.Moves {
		if m.Time.Hi >= l[m.From] && l[m.To] > max(l[m.From], m.Time.Lo) {
			return false
		}
	}
	return l[s.Vessel] <= s.Time
}

// numbers returns all lists of n numbers from 0 to most, or TaintNever.
func numbers(n int, most int64) [][]int64 {
	all := [][]int64{nil}
	for range n {
		var longer [][]int64
		for _, l := range all {
			for x := range most + 1 {
				longer = append(longer, append(slices.Clone(l), x))
			}
			longer = append(longer, append(slices.Clone(l), never))
		}
		all = longer
	}
	return all
}

// spoils reports whether a start has, for each spoilt move, a trail to its From after which it can be made.
func spoils(y api.TaintYard, s api.TaintStart, spoilt []int) bool {
	found := map[int]bool{}
	for _, walk := range walks(y, s, y.Vessels, false) {
		if len(walk) > 0 {
			found[walk[len(walk)-1]] = true
		}
	}
	return !slices.ContainsFunc(spoilt, func(name int) bool { return !found[name] })
}

// arrivals, carried and sure return what functions return that are to return no error.
func arrivals(t *testing.T, y api.TaintYard, s api.TaintStart) []int64 {
	t.Helper()
	l, e := taint.Arrivals(y, s)
	want(t, e, api.OK, y, s)
	want(t, len(l), y.Vessels, y, s)
	return l
}

func carried(t *testing.T, y api.TaintYard, s api.TaintStart) []int {
	t.Helper()
	l, e := taint.Carried(y, s)
	want(t, e, api.OK, y, s)
	return l
}

func sure(t *testing.T, y api.TaintYard, s api.TaintStart) []int {
	t.Helper()
	l, e := taint.Sure(y, s)
	want(t, e, api.OK, y, s)
	return l
}

// die gives numbers in a fixed order that looks like none.
type die uint64

func (d *die) roll(lo, hi int64) int64 {
	*d = *d*6364136223846793005 + 1442695040888963407
	return lo + int64(uint64(*d>>33)%uint64(hi-lo+1))
}

func (d *die) index(n int) int { return int(d.roll(0, int64(n)-1)) }

// yard returns a yard with so many vessels and moves, with times from 0 to last of at most so many minutes.
func (d *die) yard(vessels, moves int, last, minutes int64) api.TaintYard {
	y := yard(vessels)
	for range moves {
		if vessels == 1 {
			break
		}
		from := d.index(vessels)
		lo := d.roll(0, last)
		y.Moves = append(y.Moves, move(from, (from+1+d.index(vessels-1))%vessels, lo, min(last, lo+d.roll(0, minutes))))
	}
	return y
}

// small returns a yard, and a start, that are small enough to look at all trails and times.
func (d *die) small() (api.TaintYard, api.TaintStart) {
	y := d.yard(int(d.roll(1, 4)), int(d.roll(0, 6)), 6, 3)
	return y, at(d.index(y.Vessels), d.roll(0, 4))
}

// great returns a yard of the greatest size, and a start.
func (d *die) great() (api.TaintYard, api.TaintStart) {
	y := d.yard(int(d.roll(2, 20)), 40, api.MaxTaintTime, d.roll(1, api.MaxTaintTime))
	return y, at(y.Moves[d.index(40)].From, d.roll(0, api.MaxTaintTime/2))
}

// timesOf returns some times of a yard.
func (d *die) timesOf(y api.TaintYard) []int64 {
	var l []int64
	for _, m := range y.Moves {
		l = append(l, d.roll(m.Time.Lo, m.Time.Hi))
	}
	return l
}

// moves returns some moves of a yard, each once, increasing.
func (d *die) moves(y api.TaintYard, n int) []int {
	var l []int
	for range n {
		l = append(l, d.index(len(y.Moves)))
	}
	slices.Sort(l)
	return slices.Compact(l)
}

// want fails the test if a result is not as it is to be.
func want[T comparable](t *testing.T, got, wanted T, about ...any) {
	t.Helper()
	if got != wanted {
		t.Fatalf("%v: got %v, want %v", about, got, wanted)
	}
}

// wantList fails the test if a list is not as it is to be.
func wantList[T comparable](t *testing.T, got, wanted []T, about ...any) {
	t.Helper()
	if !slices.Equal(got, wanted) {
		t.Fatalf("%v: got %v, want %v", about, got, wanted)
	}
}

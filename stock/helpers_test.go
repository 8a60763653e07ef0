package stock_test

import (
	"slices"
	"testing"

	"forecourt/api"
	"forecourt/stock"
)

const (
	least = -1 << 63
	most  = 1<<63 - 1
)

func rg(lo, hi int64) api.Range { return api.Range{Lo: lo, Hi: hi} }

// net returns a net: From, To, least and greatest litres of each flow.
func net(tanks int, l ...int64) api.StockNet {
	n := api.StockNet{Tanks: tanks}
	for i := 0; i < len(l); i += 4 {
		n.Flows = append(n.Flows, api.StockFlow{From: int(l[i]), To: int(l[i+1]), Litres: rg(l[i+2], l[i+3])})
	}
	return n
}

// chapter returns N of the chapter; lost returns it with 0 to 30 litres in the flow 1, so that it has no truth.
func chapter() api.StockNet { return net(2, 0, 1, 100, 110, 1, 2, 30, 50, 1, 0, 40, 60, 2, 0, 45, 70) }
func lost() api.StockNet    { return net(2, 0, 1, 100, 110, 1, 2, 0, 30, 1, 0, 40, 60, 2, 0, 45, 70) }

// copied returns an equal net in other memory.
func copied(n api.StockNet) api.StockNet {
	n.Flows = slices.Clone(n.Flows)
	return n
}

// isTruth reports whether litres are a truth, by the definition.
func isTruth(n api.StockNet, truth []int64) bool {
	in, out := make([]int64, n.Tanks+1), make([]int64, n.Tanks+1)
	for i, f := range n.Flows {
		if truth[i] < f.Litres.Lo || truth[i] > f.Litres.Hi {
			return false
		}
		out[f.From] += truth[i]
		in[f.To] += truth[i]
	}
	return slices.Equal(in[1:], out[1:])
}

// truths returns all truths of a small net, by trying all litres of all flows.
func truths(n api.StockNet) [][]int64 {
	tried := [][]int64{nil}
	for _, f := range n.Flows {
		var longer [][]int64
		for _, l := range tried {
			for litres := f.Litres.Lo; litres <= f.Litres.Hi; litres++ {
				longer = append(longer, append(slices.Clone(l), litres))
			}
		}
		tried = longer
	}
	return slices.DeleteFunc(tried, func(l []int64) bool { return !isTruth(n, l) })
}

// spanIn returns the least and the greatest litres of a flow in some truths.
func spanIn(truths [][]int64, flow int) api.Range {
	span := rg(truths[0][flow], truths[0][flow])
	for _, l := range truths {
		span = rg(min(span.Lo, l[flow]), max(span.Hi, l[flow]))
	}
	return span
}

// sets returns all sets of a net.
func sets(n api.StockNet) [][]int {
	var all [][]int
	for bits := range 1 << (n.Tanks + 1) {
		var l []int
		for place := range n.Tanks + 1 {
			if bits>>place&1 == 1 {
				l = append(l, place)
			}
		}
		all = append(all, l)
	}
	return all
}

// goesOut and goesIn report whether a flow goes out of a set, or into it, by the definition.
func goesOut(f api.StockFlow, set []int) bool {
	return slices.Contains(set, f.From) && !slices.Contains(set, f.To)
}
func goesIn(f api.StockFlow, set []int) bool {
	return slices.Contains(set, f.To) && !slices.Contains(set, f.From)
}

// shortOf returns by how much a set is short, by the definition; it is not if this is not above 0.
func shortOf(n api.StockNet, set []int) int64 {
	by := int64(0)
	for _, f := range n.Flows {
		if goesOut(f, set) {
			by += f.Litres.Lo
		}
		if goesIn(f, set) {
			by -= f.Litres.Hi
		}
	}
	return by
}

// boundOf is what CheckBound returns.
type boundOf struct {
	litres int64
	e      api.Errno
}

func bound(n api.StockNet, flow int, high bool, set []int) boundOf {
	litres, e := stock.CheckBound(n, flow, high, set)
	return boundOf{litres, e}
}

// bounded returns the bound of a set, or the empty list, by the definition.
func bounded(n api.StockNet, flow int, high bool, set []int) boundOf {
	if len(set) == 0 && high {
		return boundOf{n.Flows[flow].Litres.Hi, api.OK}
	}
	if len(set) == 0 {
		return boundOf{n.Flows[flow].Litres.Lo, api.OK}
	}
	if !goesOut(n.Flows[flow], set) {
		return boundOf{e: api.ErrRule}
	}
	litres := int64(0)
	for i, f := range n.Flows {
		switch {
		case goesIn(f, set) && high:
			litres += f.Litres.Hi
		case goesIn(f, set):
			litres += f.Litres.Lo
		case i != flow && goesOut(f, set) && high:
			litres -= f.Litres.Lo
		case i != flow && goesOut(f, set):
			litres -= f.Litres.Hi
		}
	}
	return boundOf{litres, api.OK}
}

// spanOf is what Span and Meter and Worn return.
type spanOf struct {
	litres api.Range
	e      api.Errno
}

func span(n api.StockNet, flow int) spanOf {
	r, e := stock.Span(n, flow)
	return spanOf{r, e}
}

// spans returns the spans of all flows.
func spans(n api.StockNet) []spanOf {
	var l []spanOf
	for flow := range n.Flows {
		l = append(l, span(n, flow))
	}
	return l
}

// endOf returns an end of a range.
func endOf(r api.Range, high bool) int64 {
	if high {
		return r.Hi
	}
	return r.Lo
}

// die gives numbers in a fixed order that looks like none.
type die uint64

func (d *die) roll(lo, hi int64) int64 {
	*d = *d*6364136223846793005 + 1442695040888963407
	return lo + int64(uint64(*d>>33)%uint64(hi-lo+1))
}

// flow returns a flow between two places of so many tanks.
func (d *die) flow(tanks int, litres api.Range) api.StockFlow {
	from := d.roll(0, int64(tanks))
	to := (from + d.roll(1, int64(tanks))) % int64(tanks+1)
	return api.StockFlow{From: int(from), To: int(to), Litres: litres}
}

// small returns a net that is small enough to look at all its truths; it need not have one.
func (d *die) small() api.StockNet {
	n := api.StockNet{Tanks: int(d.roll(1, 4))}
	for range d.roll(0, 7) {
		lo := d.roll(0, 3)
		n.Flows = append(n.Flows, d.flow(n.Tanks, rg(lo, lo+d.roll(0, 2))))
	}
	return n
}

// truthful returns a small net that has a truth, and all its truths. It has a flow at least.
func (d *die) truthful() (api.StockNet, [][]int64) {
	for {
		n := d.small()
		if all := truths(n); len(n.Flows) > 0 && len(all) > 0 {
			return n, all
		}
	}
}

// around returns a net with so many tanks and flows, and one of its truths, from whose litres the ends of ranges differ by at most wide.
func (d *die) around(tanks, flows int, wide int64) (api.StockNet, []int64) {
	n, truth := api.StockNet{Tanks: tanks}, make([]int64, flows)
	for range flows {
		n.Flows = append(n.Flows, d.flow(tanks, api.Range{}))
	}
	for range 3 * flows {
		d.addRing(n, truth)
	}
	for i := range truth {
		n.Flows[i].Litres = rg(max(0, truth[i]-d.roll(0, wide)), min(api.MaxStockLitres, truth[i]+d.roll(0, wide)))
	}
	return n, truth
}

// addRing adds some litres to the flows of a ring that a walk from flow to flow finds, if it finds one.
func (d *die) addRing(n api.StockNet, truth []int64) {
	walked := []int{int(d.roll(0, int64(len(n.Flows)-1)))}
	for range 2 * n.Tanks {
		at := n.Flows[walked[len(walked)-1]].To
		if back := slices.IndexFunc(walked, func(i int) bool { return n.Flows[i].From == at }); back >= 0 {
			litres := d.roll(1, 500)
			for _, i := range walked[back:] {
				truth[i] += litres
			}
			return
		}
		var next []int
		for i, f := range n.Flows {
			if f.From == at {
				next = append(next, i)
			}
		}
		if len(next) == 0 {
			return
		}
		walked = append(walked, next[d.roll(0, int64(len(next)-1))])
	}
}

// want fails the test if a result is not as it is to be.
func want[T comparable](t *testing.T, got, wanted T, about ...any) {
	t.Helper()
	if got != wanted {
		t.Fatalf("%v: got %v, want %v", about, got, wanted)
	}
}

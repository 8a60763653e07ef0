package stock

import "forecourt/api"

// mover moves litres in a ledger, by ways that it looks for.
type mover struct {
	ledger
	seen placeSet    // the places to which the last search came
	came map[int]int // from which place it came to each of them
}

// moverOf returns a mover of litres in the ledger of a valid net.
func moverOf(n api.StockNet) *mover {
	return &mover{ledger: ledgerOf(n), came: map[int]int{}}
}

// first returns the index of the first element that is of a kind, and whether there is one.
func first[T any](list []T, is func(T) bool) (int, bool) {
	for i, x := range list {
		if is(x) {
			return i, true
		}
	}
	return 0, false
}

// search looks from a place on for the nearest one that takes some litres, and reports whether there is one.
func (m *mover) search(from int, room [places]row, takes func(place int) int64) (to int, found bool) {
	clear(m.seen[:])
	clear(m.came)
	m.seen[from] = true
	queue := []int{from}
search:
	for at := 0; at < len(queue); at++ {
		place := queue[at]
		if room[place] == (row{}) {
			continue
		}
		for next, litres := range room[place] {
			if litres == 0 || m.seen[next] {
				continue
			}
			m.seen[next], m.came[next] = true, place
			if takes(next) > 0 {
				to, found = next, true
				break search
			}
			queue = append(queue, next)
		}
	}
	return to, found
}

// step is two places beside each other on a way.
type step struct{ from, to int }

// way takes out the way by which the last search came from a place to another one, the last step first.
func (m *mover) way(from, to int) []step {
	var steps []step
	for to != from {
		before := m.came[to]
		delete(m.came, to)
		steps = append(steps, step{before, to})
		to = before
	}
	return steps
}

// push moves litres from a place to the nearest one that takes some, and returns
// how many. If it is none, there is no room out of the places that were seen,
// and none of them but the first one takes any.
func (m *mover) push(from int, takes func(place int) int64) int64 {
	room := m.room()
	to, found := m.search(from, room, takes)
	if !found {
		return 0
	}
	litres, way := takes(to), m.way(from, to)
	for _, s := range way {
		litres = min(litres, room[s.from][s.to])
	}
	for _, s := range way {
		m.shift(s.from, s.to, litres)
	}
	return litres
}

// spare is the surplus of all places, and one of them that has some.
type spare struct {
	surplus row
	from    int
}

// takes returns how much of what this place has too much another place has too little.
func (s spare) takes(place int) int64 { return min(s.surplus[s.from], -s.surplus[place]) }

// balance makes a truth, and reports whether there is one. If there is none, the
// places that were seen have too much together, even though as little as can be
// flows into them, and as much as can be out of them: so their others are short.
func (m *mover) balance() bool {
	for {
		surplus := m.surplus()
		from, found := first(surplus[:], func(litres int64) bool { return litres > 0 })
		if !found {
			return true
		}
		if m.push(from, spare{surplus, from}.takes) == 0 {
			return false
		}
	}
}

// pushAll moves litres from a place to another one, as many as there is room for, and returns how many are left.
func (m *mover) pushAll(from, to int, litres int64) int64 {
	for litres > 0 {
		pushed := m.push(from, func(place int) int64 {
			if place == to {
				return litres
			}
			return 0
		})
		if pushed == 0 {
			break
		}
		litres -= pushed
	}
	return litres
}

// extreme is a truth in which a flow has an end of its span, and the set that proves it.
type extreme struct {
	truth  []int64
	litres int64
	set    []int
}

// extremeOf returns an extreme of a flow, or the error of Span and Reach.
//
// The flow can have more litres just if these can flow back, beside it, from its
// To to its From; it can have fewer just if what it no longer has can flow beside
// it from its From to its To. When there is no more room for that, the places that
// were seen prove it.
func extremeOf(n api.StockNet, flow int, high bool) (extreme, api.Errno) {
	if e := checkFlow(n, flow); e != api.OK {
		return extreme{}, e
	}
	m := moverOf(n)
	if !m.balance() {
		return extreme{}, api.ErrClash
	}
	f := n.Flows[flow]
	m.Flows = without(n.Flows, flow)
	var left int64
	var proof placeSet
	if high {
		left = m.pushAll(f.To, f.From, f.Litres.Hi-m.litres[flow])
		m.litres[flow], proof = f.Litres.Hi-left, m.seen.others()
	} else {
		left = m.pushAll(f.From, f.To, m.litres[flow]-f.Litres.Lo)
		m.litres[flow], proof = f.Litres.Lo+left, m.seen
	}
	if left == 0 {
		proof = placeSet{}
	}
	return extreme{m.truth(), m.litres[flow], proof.list(n.Tanks)}, api.OK
}

package plate

import "forecourt/api"

// unreached is farther than any way goes.
const unreached = api.MaxNumber

// search is ways for a row to get a column: it takes one, whose holder takes another one, and so
// on. A way is as far as all that its new pairs cost beyond their prices.
type search struct {
	*market
	far    [api.MaxPlateColumns]int64 // how far the nearest way to each column is, up to now
	before [api.MaxPlateColumns]int   // the column before it on this way, or nobody's
	seen   [api.MaxPlateColumns]bool  // whether its holder has looked for another one
}

// searchOf returns a search that has not reached any column.
func searchOf(m *market) *search {
	s := &search{market: m}
	for column := range s.far {
		s.far[column] = unreached
	}
	return s
}

// to returns how far the way to a column is.
func (s *search) to(column int) int64 { return s.far[column] }

// waiting yields the columns that are reached, but not seen.
func (s *search) waiting(yield func(int) bool) {
	for column := range s.Columns {
		if s.to(column) < unreached && !s.seen[column] && !yield(column) {
			return
		}
	}
}

// look lets a row take other columns, if the way to the one that it holds is so far.
func (s *search) look(row, holds int, far int64) {
	for column := range s.Columns {
		p := pair{row, column}
		if s.allowed(p) && far+s.extra(p) < s.to(column) {
			s.far[column], s.before[column] = far+s.extra(p), holds
		}
	}
}

// raise changes the prices so that the new pairs of a way that is so far cost just their prices,
// and those that are held still do. No pair comes to cost less than its prices, as no way to a
// column that is not seen is less far.
func (s *search) raise(row int, far int64) {
	s.Rows[row] += far
	for column, seen := range s.seen {
		if seen {
			s.Rows[s.holders[column]] += far - s.to(column)
			s.Columns[column] -= far - s.to(column)
		}
	}
}

// take gives all rows on the way to a free column their new ones.
func (s *search) take(row, column int) {
	for s.before[column] != nobody {
		s.holders[column] = s.holders[s.before[column]]
		column = s.before[column]
	}
	s.holders[column] = row
}

// seat gives one more row a column, and reports whether there is a way to do so.
func (m *market) seat(row int) bool {
	s := searchOf(m)
	s.look(row, nobody, 0)
search:
	for {
		column, far, found := least(s.waiting, s.to)
		switch {
		case !found:
			return false
		case m.holders[column] == nobody:
			s.raise(row, far)
			s.take(row, column)
			break search
		}
		s.seen[column] = true
		s.look(m.holders[column], column, far)
	}
	return true
}
